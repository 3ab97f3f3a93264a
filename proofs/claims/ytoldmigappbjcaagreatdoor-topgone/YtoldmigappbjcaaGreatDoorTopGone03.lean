import Derived.Below
import Derived.ChangeOld
import Derived.Deep.Slices
import Derived.OpenShut
import Derived.ProofKit
import Derived.SizedLaws
import Derived.Test.YtoldmigappbjcaaGreatDoorK01
import Derived.Test.YtoldmigappbjcaaGreatDoorK05
import Derived.Test.YtoldmigappbjcaaGreatDoorK07
import Derived.Test.YtoldmigappbjcaaGreatDoorK14
import Derived.Test.YtoldmigappbjcaaGreatDoorK26
import Derived.Test.YtoldmigappbjcaaGreatDoorK31
import Derived.Test.YtoldmigappbjcaaGreatDoorRows
import Derived.Test.YtoldmigappbjcaaGreatDoorTopGone01
import Derived.Test.YtoldmigappbjcaaGreatDoorTopGone02
namespace Go.GrainU
open Go.RowKit
theorem seg_of {α:Type} {W:World} {b off len c:Nat} (hc:0<c) (f:Nat→α) (cell:α→List Value) (hcl:∀ x,(cell x).length=c)
  (h:∀ i,i<len→∀ j,j<c→W.cell? ⟨b,off+(i*c+j),none⟩=(cell (f i))[j]?):Seg W (some ⟨b,off,none⟩) ((List.range len).flatMap fun i=>cell (f i)):=by
 refine .inr ⟨b,off,rfl,fun j hj=>?_⟩
 have hl:∀ n,((List.range n).flatMap fun i=>cell (f i)).length=n*c:=by
  intro n
  induction n with
  | zero=>simp
  | succ n ih=>rw [List.range_succ,List.flatMap_append,List.length_append,ih];simp [hcl,Nat.add_mul]
 rw [hl] at hj
 have hat:∀ n i,i<n→∀ q,q<c→((List.range n).flatMap fun i=>cell (f i))[i*c+q]?=(cell (f i))[q]?:=by
  intro n
  induction n with
  | zero=>intro i hi;omega
  | succ n ih =>
   intro i hi q hq
   rw [List.range_succ,List.flatMap_append]
   have hle:(i+1)*c≤(n+1)*c:=Nat.mul_le_mul_right c (by omega)
   rw [Nat.add_mul] at hle
   by_cases e:i<n
   ·have h2:(i+1)*c≤n*c:=Nat.mul_le_mul_right c (by omega)
    rw [Nat.add_mul] at h2
    rw [List.getElem?_append_left (by rw [hl];omega)]
    exact ih i e q hq
   ·have e':i=n:=by omega
    subst e'
    rw [List.getElem?_append_right (by rw [hl];omega),hl,show i*c+q-i*c=q from by omega]
    simp
 have hq:j%c<c:=Nat.mod_lt _ hc
 have hd:j / c<len:=Nat.div_lt_of_lt_mul (by rw [Nat.mul_comm];exact hj)
 have hm:j / c*c+j%c=j:=by rw [Nat.mul_comm];exact Nat.div_add_mod j c
 have h1:=hat len (j / c) hd (j%c) hq
 have h2:=h (j / c) hd (j%c) hq
 rw [hm] at h1 h2
 rw [h1,h2]
open Go.RowKit
theorem weights_mem_all {H:Type} {P:Program} {e:TypeId} {l:List (DataW H)} {d:DataW H} (h:d∈l):∀ n∈d.weights P e,n∈DataW.weightsAll P e l:=by
 induction l with
 | nil=>cases h
 | cons a r ih =>
  intro n hn
  simp only [DataW.weightsAll,List.mem_append]
  rcases List.mem_cons.1 h with e | e
  ·rw [e] at hn;exact .inl hn
  ·exact .inr (ih e n hn)
end Go.GrainU
namespace Go.Proofs.YtoldmigappbjcaaGreatDoor
open Go.ChangeShapes Go.WideShapes Go.ChangeAt Go.RowKit Go.GrainU
theorem Tryz.laidOut:laidOutB Tryz.prog=true:=by kernel_rfl
theorem Tryz.cellsInt:Tryz.prog.cellsOf 3=1:=by kernel_rfl
theorem field_i64 {H:Type} {enc:TypeId×Value→H} {W:World} {n:Nat} {c:Value} {y:DataW H×List MemPlace} (h:DataW.trod enc Tryz.prog W 0 (fun _=>true) true n 3 [c]=some y):∃ z,c=.int .i64 z:=by
 obtain ⟨z,hz,_,_⟩:=DataW.trod_int Tryz.underlying3 h
 exact ⟨z,by simpa using hz⟩
end Go.Proofs.YtoldmigappbjcaaGreatDoor
namespace Go.GrainU
open Go.RowKit
theorem scells_flat (l:List (Int×Int)):scells l=l.flatMap fun x=>[.int .i64 x.1,.int .i64 x.2]:=by
 induction l with
 | nil=>rfl
 | cons x r ih=>simp [scells,ih]
theorem list2 {α:Type} {l:List α} (h:l.length=2):∃ a b,l=[a,b]:=by
 match l,h with
 | [a,b],_=>exact ⟨a,b,rfl⟩
end Go.GrainU
namespace Go.Proofs.YtoldmigappbjcaaGreatDoor
open Go.ChangeShapes Go.WideShapes Go.ChangeAt Go.RowKit Go.GrainU
theorem Tryz.cellsSample2:Tryz.prog.cellsOf 34=2:=by kernel_rfl
theorem Tryz.bytesSample:Tryz.prog.bytesOf 34=16:=by kernel_rfl
theorem open_list2 {H:Type} {enc:TypeId×Value→H} {W:World} {α:Type} [Inhabited α] {fuel:Nat} {t e:TypeId} {cs:List Value} {x:DataW H×List MemPlace} (cell:α→List Value) (Q:α→Prop) (c:Nat) (hc:0<c) (hcl:∀ a,(cell a).length=c)
  (hcells:Tryz.prog.cellsOf e=c) (_hb:1≤Tryz.prog.bytesOf e) (ht:Tryz.prog.underlying t=some (.slice e)) (h:DataW.trod enc Tryz.prog W 0 (fun _=>true) true fuel t cs=some x) (hw:∀ n∈x.1.weights Tryz.prog t,n≤reachBytes)
  (each:∀ n cs' y,n<fuel→DataW.trod enc Tryz.prog W 0 (fun _=>true) true n e cs'=some y→(∀ k∈y.1.weights Tryz.prog e,k≤reachBytes)→∃ a,cs'=cell a∧Q a) :
  ∃ (l:List α) (ao:Option Addr) (cap:Nat),cs=[.slice ao l.length cap]∧Seg W ao (l.flatMap cell)∧(∀ a∈l,Q a)∧l.length≤cap∧l.length*Tryz.prog.bytesOf e≤reachBytes∧(ao=none→l.length=0∧cap=0)∧cap≤maxLen:=by
 rcases DataW.trod_slice ht h with ⟨hcs,_⟩ | ⟨a,len,cap,elems,rest,n,hn,hcs,hx,_,hl,hm,hlen,hel,hsp,hns⟩
 ·exact ⟨[],none,0,hcs,.inl rfl,fun a ha=>by (cases ha),Nat.le_refl _,by simp,fun _=>⟨rfl,rfl⟩,Nat.zero_le _⟩
 ·have hwt:∀ k,k∈(elems.length+rest.length)*Tryz.prog.bytesOf e::(DataW.weightsAll Tryz.prog e (elems.map (·.1))++DataW.weightsAll Tryz.prog e (rest.map (·.1)))→k≤reachBytes:=by
   intro k hk
   refine hw k ?_
   rw [hx]
   simp only [DataW.weights,ht]
   simpa using hk
  have hlb:len*Tryz.prog.bytesOf e≤reachBytes:=by
   have h1:=hwt _ (List.mem_cons_self ..)
   have h2:len*Tryz.prog.bytesOf e≤(elems.length+rest.length)*Tryz.prog.bytesOf e:=Nat.mul_le_mul_right _ (by omega)
   omega
  have ex:∀ i,i<len→∃ y:α,(∀ j,j<c→W.cell? (a.add (i*c+j))=(cell y)[j]?)∧Q y:=by
   intro i hi
   have h1:=hel i hi
   have hi':i<elems.length:=by omega
   rw [List.getElem?_eq_getElem hi',Option.bind_eq_some_iff] at h1
   obtain ⟨cs',h2,h3⟩:=h1
   rw [hcells] at h2
   obtain ⟨_,hlen',hcc⟩:=World.cells?_some h2
   obtain ⟨y,rfl,hq⟩:=each n cs' _ (by omega) h3 (fun k hk=>hwt k (List.mem_cons_of_mem _ (List.mem_append_left _ (weights_mem_all (List.mem_map_of_mem (List.getElem_mem hi')) k hk))))
   refine ⟨y,fun j hj=>?_,hq⟩
   have:=hcc j hj
   rw [Go.Deep.add_add] at this
   exact this
  obtain ⟨f,hf⟩:=Go.Deep.choose_lt ex
  refine ⟨(List.range len).map f,some a,cap,by simpa using hcs,?_,fun y hy=>?_,by simpa using hl,by simpa using hlb,fun h=>(by cases h),hm⟩
  ·rcases Nat.eq_zero_or_pos len with h0 | h0
   ·subst h0;exact .inl rfl
   ·obtain ⟨b,off,spot⟩:=a
    have hspot:spot=none:=by
     have h1:=(hf 0 h0).1 0 hc
     have h2:0<(cell (f 0)).length:=by rw [hcl];exact hc
     rw [List.getElem?_eq_getElem h2] at h1
     simp only [Nat.zero_mul,Nat.add_zero] at h1
     simpa [Addr.add] using World.cell?_spot h1
    subst hspot
    rw [List.flatMap_map]
    refine seg_of hc f cell hcl (fun i hi j hj=>?_)
    have:=(hf i hi).1 j hj
    rw [Go.WideShapes.add_plain] at this
    exact this
  ·obtain ⟨i,hi,rfl⟩:=List.mem_map.1 hy
   exact (hf i (by simpa using hi)).2
theorem open_smp {H:Type} {enc:TypeId×Value→H} {W:World} {n:Nat} {cs:List Value} {x:DataW H×List MemPlace}
  (h:DataW.trod enc Tryz.prog W 0 (fun _=>true) true n 34 cs=some x):∃ k:Int×Int,cs=[.int .i64 k.1,.int .i64 k.2]:=by
 obtain ⟨xs,m,_,hx,hl,hlen,hf⟩:=DataW.trod_struct Tryz.underlying34 h
 rw [Tryz.cellsSample2] at hl
 have hlen':xs.length=2:=hlen
 obtain ⟨c0,c1,rfl⟩:=list2 hl
 obtain ⟨x0,x1,rfl⟩:=list2 hlen'
 have g0:DataW.trod enc Tryz.prog W 0 (fun _=>true) true m 3 ((List.drop 0 [c0,c1]).take (Tryz.prog.cellsOf 3))=some x0:=hf 0 _ rfl
 have g1:DataW.trod enc Tryz.prog W 0 (fun _=>true) true m 3 ((List.drop 1 [c0,c1]).take (Tryz.prog.cellsOf 3))=some x1:=hf 1 _ rfl
 rw [Tryz.cellsInt] at g0 g1
 simp only [List.drop_zero,List.drop_succ_cons,List.take_succ_cons,List.take_zero] at g0 g1
 obtain ⟨z0,rfl⟩:=field_i64 g0
 obtain ⟨z1,rfl⟩:=field_i64 g1
 exact ⟨⟨z0,z1⟩,rfl⟩
end Go.Proofs.YtoldmigappbjcaaGreatDoor
namespace Go.GrainU
open Go.RowKit
end Go.GrainU
namespace Go.Proofs.YtoldmigappbjcaaGreatDoor
open Go.ChangeShapes Go.WideShapes Go.ChangeAt Go.RowKit Go.GrainU
theorem open_smps {H:Type} {enc:TypeId×Value→H} {W:World} {fuel:Nat} {cs:List Value} {x:DataW H×List MemPlace}
  (h:DataW.trod enc Tryz.prog W 0 (fun _=>true) true fuel 56 cs=some x) (hw:∀ k∈x.1.weights Tryz.prog 56,k≤reachBytes) :
  ∃ (l:List (Int×Int)) (ao:Option Addr) (cap:Nat),cs=[.slice ao l.length cap]∧Seg W ao (scells l)∧l.length≤cap∧l.length*16≤reachBytes∧(ao=none→l.length=0∧cap=0)∧cap≤9223372036854775807:=by
 obtain ⟨l,ao,cap,e,sg,_,l1,b,n1,m1⟩:=open_list2 (α:=Int×Int) (fun x=>[.int .i64 x.1,.int .i64 x.2]) (fun _=>True) 2 (by decide) (fun _=>rfl) Tryz.cellsSample2 (by rw [Tryz.bytesSample];decide) Tryz.underlying56 h hw (fun n cs' y _ hy _=>by
  obtain ⟨k,hk⟩:=open_smp hy
  exact ⟨k,hk,trivial⟩)
 rw [← scells_flat] at sg
 rw [Tryz.bytesSample] at b
 exact ⟨l,ao,cap,e,sg,l1,b,n1,by unfold maxLen at m1;exact m1⟩
end Go.Proofs.YtoldmigappbjcaaGreatDoor
namespace Go.GrainU
open Go.RowKit
theorem tell_in {a b:List Ln} {s:Lb} {A:List (Int×Int)} {x:Int×Int} (hl:lpos (a++[(s,A)]++b) s=a.length):tellP (a++[(s,A)]++b) s x=a++[(s,A++[x])]++b:=by
 have hh:lhas (a++[(s,A)]++b) s=true:=by
  unfold lhas
  rw [hl]
  simp [lnn,List.getD,cmpS_self]
 unfold tellP
 rw [if_pos hh,hl]
 simp [lnn,List.getD]
theorem tell_new {a b:List Ln} {s:Lb} {x:Int×Int} (hl:lpos (a++b) s=a.length) (hn:b=[]∨cmpS (lser b 0) s≠0):tellP (a++b) s x=a++[(s,[x])]++b:=by
 have hh:¬ lhas (a++b) s=true:=by
  unfold lhas
  rw [hl]
  rcases hn with h | h
  ·subst h;simp
  ·intro hc
   simp only [Bool.and_eq_true,decide_eq_true_eq] at hc
   apply h
   have:=hc.2
   rw [show (lnn (a++b) a.length).1=lser b 0 from by simp [lnn,lser,List.getD,List.getElem?_append_right (Nat.le_refl a.length)]] at this
   exact this
 unfold tellP
 rw [if_neg hh,hl]
 simp
end Go.GrainU
namespace Go.Proofs.YtoldmigappbjcaaGreatDoor
open Go.RowKit Go.GrainU
end Go.Proofs.YtoldmigappbjcaaGreatDoor
namespace Go.GrainU
open Go.RowKit
theorem take_more {b:Bs} (hb:BInv b) (hw:Whole b) (hz:b.hz=0) {s:Lb} (hs:wrongS s=0) {A:List (Int×Int)} (hl:lnsB b.l=if A=[] then [] else [(s,A)]) {t v:Int} (hin:Grain.inR t v=true) (hlast:∀ x∈A,x.1<t) (h5:A.length<500) :
  (takeB b s t v).2=0∧lnsB (takeB b s t v).1.l=[(s,A++[(t,v)])]:=by
 have ht:0≤t:=by simp [Grain.inR] at hin;omega
 have herr:(takeB b s t v).2=0:=by
  unfold takeB
  rw [if_neg (by simp [hs]),if_neg (by rw [hin];decide),if_neg (by rw [hz];omega)]
  by_cases hA:A=[]
  ·rw [if_pos hA] at hl
   have hb0:b.l=[]:=by simpa [lnsB] using hl
   rw [if_neg (by rw [hb0];simp [bhas,bpos]),putN_err hb hs hin (by rw [hz];omega),hb0]
   simp
  ·rw [if_neg hA] at hl
   have h1:b.l.length=1:=by
    have:=congrArg List.length hl
    rw [lnsB_len] at this
    simpa using this
   have hh:bhas b.l s=true:=by rw [← lhas_lnsB,hl];simp [lhas,lpos,cmpS_self,lnn]
   have hp:bpos b.l s=0:=by rw [← lpos_lnsB,hl];simp [lpos,cmpS_self]
   have h0:0<b.l.length:=by omega
   have e:=lnn_lnsB h0
   rw [hl] at e
   have hA2:(kp b.l 0).A=A:=(Prod.mk.inj (show (s,A)=_ from e)).2.symm
   have k1:=hb.kee _ (kp_mem h0)
   have r1:=Grain.whole_ra k1 (hw _ (kp_mem h0))
   rw [if_pos hh,putB_err,hp,Grain.sapp_err k1 (by rw [r1,hA2];exact h5) hin,if_neg]
   unfold Grain.late
   rw [hb.ft _ (kp_mem h0),hz,r1,hA2]
   have hd:decide (t<0)=false:=by simp;omega
   rw [hd,Bool.false_or]
   cases hg:A.getLast? with
   | none=>simp
   | some y =>
    have:=hlast y (List.mem_of_getLast? hg)
    simp;omega
 refine ⟨herr,?_⟩
 rw [tell_take herr,hl]
 by_cases hA:A=[]
 ·rw [if_pos hA,hA]
  exact tell_new (a:=[]) (b:=[]) rfl (.inl rfl)
 ·rw [if_neg hA]
  refine tell_in (a:=[]) (b:=[]) ?_
  simp [lpos,cmpS_self]
end Go.GrainU
namespace Go.Proofs.YtoldmigappbjcaaGreatDoor
open Go.RowKit Go.GrainU
def aBy:ByteArray:=⟨#[97]⟩
def srsA:Lb:=[(hostB,aBy)]
theorem srsA_ok:wrongS srsA=0:=by kernel_rfl
def toldD (l:List (Int×Int)):List Dn:=l.map fun x=>dAdd aBy x.1 x.2
theorem lastA_snoc {l:List Dn} {d:Dn} (h:l.length+1≤120):lastA (l++[d])=(doB (playB b0 l).1 d).2:=by
 unfold lastA
 rw [if_neg (by simp;omega),playB_snoc]
 have:=playB_len l b0
 simp [List.getD,this]
structure OneB (b:Bs) (A:List (Int×Int)):Prop where
 i:BInv b
 w:Whole b
 hz:b.hz=0
 ln:lnsB b.l=if A=[] then [] else [(srsA,A)]
theorem told_one {l:List (Int×Int)} (hr:(Grain.wrong l).1=0):∀ k,k≤l.length→OneB (playB b0 (toldD (l.take k))).1 (l.take k):=by
 obtain ⟨h5,hin,hpw⟩:=(Grain.right_iff l).1 hr
 intro k
 induction k with
 | zero=>intro _;exact ⟨b0_inv,fun k hk=>by simp [toldD,playB,b0] at hk,rfl,rfl⟩
 | succ k ih =>
  intro hk
  have hkl:k<l.length:=by omega
  have ih':=ih (by omega)
  have e:l.take (k+1)=l.take k++[l[k]]:=by rw [List.take_add_one,List.getElem?_eq_getElem hkl];rfl
  have et:toldD (l.take (k+1))=toldD (l.take k)++[dAdd aBy l[k].1 l[k].2]:=by rw [e];unfold toldD;rw [List.map_append];rfl
  rw [et,playB_snoc]
  have hd:(doB (playB b0 (toldD (l.take k))).1 (dAdd aBy l[k].1 l[k].2)).1=(takeB (playB b0 (toldD (l.take k))).1 srsA l[k].1 l[k].2).1:=rfl
  simp only [hd]
  have hm:=take_more ih'.i ih'.w ih'.hz srsA_ok ih'.ln (t:=l[k].1) (v:=l[k].2) (hin _ (List.getElem_mem hkl)) (fun x hx=>by
   obtain ⟨j,hj,rfl⟩:=List.mem_iff_getElem.1 hx
   simp at hj
   rw [List.getElem_take]
   exact (List.pairwise_iff_getElem.1 hpw) j k (by omega) hkl (by omega)) (by simp;omega)
  refine ⟨takeB_inv ih'.i _ _ _,whole_take ih'.w _ _ _,by rw [takeB_hz];exact ih'.hz,?_⟩
  rw [hm.2,e,if_neg (fun hc=>by have h9:=congrArg List.length hc;rw [List.length_append,List.length_singleton,List.length_nil] at h9;omega)]
theorem told_full {l:List (Int×Int)} (hr:(Grain.wrong l).1=0):OneB (playB b0 (toldD l)).1 l:=by
 have:=told_one hr l.length (Nat.le_refl _)
 rwa [List.take_of_length_le (Nat.le_refl _)] at this
theorem OneB.few {b:Bs} {A:List (Int×Int)} (h:OneB b A) (h5:A.length≤500):FewB 500 b:=by
 intro k hk
 obtain ⟨j,hj,rfl⟩:=List.mem_iff_getElem.1 hk
 have e:=lnn_lnsB hj
 rw [h.ln,kp_get hj] at e
 have hl:=congrArg List.length h.ln
 by_cases hA:A=[]
 ·rw [lnsB_len,if_pos hA] at hl
  simp at hl
  rw [hl] at hj
  simp at hj
 ·rw [if_neg hA] at e
  rw [lnsB_len,if_neg hA] at hl
  have:j=0:=by simp at hl;omega
  subst this
  simp [lnn] at e
  rw [← e.2];exact h5
open Go.RowKit Go.GrainU
theorem blk_beside {w w':World} {base e size n k:Nat} {v:Value} {xs:List Value} {c:Array Value} {t:TypeId} {fr:Nat×Nat} (h:w.ownsRow base e size v n xs) (hg:w.grownBy w' v.ownBlock) (hk:w.heap[k]?=some (.cells c t fr)) (ht:t≠e):w'.heap[k]?=some (.cells c t fr):=by
 rw [hg.block k (lt_of_block hk) (fun h1=>by
  obtain ⟨c',fr',k2⟩:=own_is h k h1.symm
  rw [hk] at k2
  injection k2 with k2
  injection k2 with _ k3 _
  exact ht k3)]
 exact hk
theorem seg_sample {w:World} {ao:Option Addr} {l:List (Int×Int)} (h:Seg w ao (scells l)) {k:Nat} (hk:k<l.length) :
  ∃ b off,ao=some ⟨b,off,none⟩∧b<w.heap.size∧w.cell? ⟨b,off+k*2,none⟩=some (.int .i64 (l[k]).1)∧w.cell? ⟨b,off+k*2+1,none⟩=some (.int .i64 (l[k]).2):=by
 obtain ⟨b,off,e,hc⟩:=h.sample hk
 obtain ⟨c0,c1⟩:=hc k hk
 have e1:Grain.tm l k=(l[k]).1:=by simp [Grain.tm,List.getD,List.getElem?_eq_getElem hk]
 have e2:Grain.vl l k=(l[k]).2:=by simp [Grain.vl,List.getD,List.getElem?_eq_getElem hk]
 rw [e1] at c0
 rw [e2] at c1
 exact ⟨b,off,e,World.block_lt_of_cell? w _ c0,c0,c1⟩
set_option maxHeartbeats 1000000 in
theorem tadd_blk (h:ByteArray) (t v:Int) (w:World) :
  Calls Tryz.prog 33 #[.string h,.int .i64 t,.int .i64 v] w fun e w'=>∃ S:Nat,e=.returned (.agg #[.int .i64 1,.int .i64 0,.int .i64 0,.slice (some ⟨S,0,none⟩) 1 1,.int .i64 t,.int .i64 v,.string ⟨#[]⟩])∧w'.heap[S]?=some (.cells #[.string hostB,.string h] 88 (0,0))∧Below w.heap.size w w':=by
 have FIN:∀ o,Hid (((w.alloc o).alloc (.cells #[.string hostB,.string h] 88)).heap[w.heap.size+1]?=some (.cells #[.string hostB,.string h] 88 (0,0))∧Below w.heap.size w ((w.alloc o).alloc (.cells #[.string hostB,.string h] 88))):=by
  intro o
  refine ⟨?_,((Below.refl _ _).alloc (Nat.le_refl _) _).alloc (by simp) _⟩
  have:=heap_alloc_new (w.alloc o) (.cells #[.string hostB,.string h] 88)
  simpa using this
 have HF:=hide FIN
 clear FIN
 unfold hostB at HF ⊢
 go_enter Tryz.func33,Tryz.ntmps33
 go_wp2
 exact bodyPost_ret (v:=.agg #[.int .i64 1,.int .i64 0,.int .i64 0,.slice (some ⟨w.heap.size+1,0,none⟩) 1 1,.int .i64 t,.int .i64 v,.string ⟨#[]⟩]) (by simp [results,Tryz.results33,go_sem]) rfl ⟨_,rfl,(HF.out _).out.1,(HF.out _).out.2⟩
theorem din_blk {w:World} {S:Nat} {h:ByteArray} {t v:Int} (hb:w.heap[S]?=some (.cells #[.string hostB,.string h] 88 (0,0))) (hh:h.size≤9223372036854775807):DIn w ⟨dAdd h t v,some ⟨S,0,none⟩,1⟩:=by
 obtain ⟨c0,c1,_,_⟩:=two_cells hb
 refine ⟨.inr ⟨S,0,rfl,fun j hj=>?_⟩,?_,fun h=>(by cases h),by show (ByteArray.mk #[]).size≤_;decide⟩
 ·have hj2:j<2:=by simpa [dAdd,lcells] using hj
  rcases j with _ | _ | j
  ·exact c0
  ·exact c1
  ·omega
 ·intro k hk
  have:k=0:=by simp [dAdd] at hk;exact hk
  subst this
  exact ⟨by show hostB.size≤_;decide,hh⟩
def Tls (w:World) (l:List DT):Prop:=∀ x∈l,∃ S t v,x=⟨dAdd aBy t v,some ⟨S,0,none⟩,1⟩∧w.heap[S]?=some (.cells #[.string hostB,.string aBy] 88 (0,0))
theorem Tls.below {w w':World} {l:List DT} (h:Tls w l) (hb:Below w.heap.size w w'):Tls w' l:=fun x hx=>by
 obtain ⟨S,t,v,e,hS⟩:=h x hx
 exact ⟨S,t,v,e,below_block hb hS⟩
theorem Tls.row {w w':World} {base e size n:Nat} {l:List DT} {v:Value} {xs:List Value} (h:Tls w l) (ho:w.ownsRow base e size v n xs) (hg:w.grownBy w' v.ownBlock) (ht:88≠e):Tls w' l:=fun x hx=>by
 obtain ⟨S,t,v,e,hS⟩:=h x hx
 exact ⟨S,t,v,e,blk_beside ho hg hS ht⟩
theorem dns_append (a b:List DT):dns (a++b)=dns a++dns b:=by simp [dns]
set_option maxRecDepth 20000 in
set_option maxHeartbeats 4000000 in
theorem ttold_any (l:List (Int×Int)) (ao:Option Addr) (n cap:Nat) (w:World) (hs:Seg w ao (scells l)) (hn:n=l.length) (h6:n≤1000) :
  Calls Tryz.prog 24 #[.slice ao n cap] w fun e w'=>∃ (tq':Option Addr) (d:Nat) (ds:List DT),e=.returned (.slice tq' n d)∧w'.ownsRow w.heap.size 36 7 (.slice tq' n d) n (dcells ds)∧dns ds=toldD l∧Tls w' ds∧Below w.heap.size w w':=by
 obtain ⟨i0,hi,hz0,hz1,hz2⟩:=sinfo_parts Tryz.infoDo
 have HS:=hide hs
 have HN:=hide hn
 clear hs hn
 go_enter Tryz.func24,Tryz.ntmps24
 go_wp2
 go_loopw [3,8] (fun g i wr=>∃ (k d:Nat) (go:Option Addr) (ds:List DT),k≤n∧i=.int .i64 k∧g=.slice go k d∧wr.ownsRow w.heap.size 36 7 (.slice go k d) k (dcells ds)∧Hid (dns ds=toldD (l.take k))∧Tls wr ds∧Below w.heap.size w wr) (fun _ i _=>n-(intOf i).toNat)
 case atStart=>exact ⟨0,0,none,[],Nat.zero_le _,rfl,rfl,by simpa [dcells] using World.ownsRow_nil _ _ _ _,rfl,fun x hx=>(by cases hx),Below.refl _ _⟩
 case round =>
  obtain ⟨k,d,go,ds,hk,rfl,rfl,own,HD,tls,bel⟩:=hrel
  by_cases hlt:k<n
  ·have hkl:k<l.length:=by rw [← HN.out];exact hlt
   obtain ⟨b,off,rfl,hbl,c0,c1⟩:=seg_sample HS.out hkl
   obtain ⟨t,ht⟩:∃ t,t=(l[k]).1:=⟨_,rfl⟩
   obtain ⟨v,hv⟩:∃ v,v=(l[k]).2:=⟨_,rfl⟩
   have HT:Hid (toldD (l.take (k+1))=toldD (l.take k)++[dAdd aBy t v]):=by
    show _=_
    rw [List.take_add_one,List.getElem?_eq_getElem hkl,ht,hv]
    unfold toldD
    rw [List.map_append];rfl
   have k0:wr.cell? ⟨b,off+k*2,none⟩=some (.int .i64 t):=by rw [ht];exact (bel.cell (p:=⟨b,_,none⟩) hbl).trans c0
   have k1:wr.cell? ⟨b,off+k*2+1,none⟩=some (.int .i64 v):=by rw [hv];exact (bel.cell (p:=⟨b,_,none⟩) hbl).trans c1
   have hki:(k:Int)<(n:Int):=by omega
   obtain ⟨V,hV⟩:∃ V,V=wr.alloc (.cells #[.int .i64 t,.int .i64 v] 34):=⟨_,rfl⟩
   have bV:Below wr.heap.size wr V:=by rw [hV];exact (Below.refl _ _).alloc (Nat.le_refl _) _
   have D0:V.heap[wr.heap.size]?=some (.cells #[.int .i64 t,.int .i64 v] 34 (0,0)):=by rw [hV];exact heap_alloc_new wr _
   obtain ⟨t0,t1,_,_⟩:=two_cells D0
   have PA:=hide (tadd_blk aBy t v V)
   unfold aBy at PA
   have HV:=hide hV
   have own0:=own_below own bV
   have tls0:=tls.below bV
   have bel0:=below_step bV bel
   clear ht hv c0 c1 hV bV own tls bel D0
   go_upto_region 5 with fail
   rw [← HV.out]
   go_wp2_with fail
   refine PA.out.mono ?_
   rintro e w2 ⟨S,rfl,hS,b2⟩
   have own2:=own_below own0 b2
   have tls2:=tls0.below b2
   have bel2:=below_step b2 bel0
   obtain ⟨U,hU⟩:∃ U,U=w2.alloc (.cells #[.int .i64 1,.int .i64 0,.int .i64 0,.slice (some ⟨S,0,none⟩) 1 1,.int .i64 t,.int .i64 v,.string ⟨#[]⟩] 36):=⟨_,rfl⟩
   have bU:Below w2.heap.size w2 U:=by rw [hU];exact (Below.refl _ _).alloc (Nat.le_refl _) _
   have ownU:=own_below own2 bU
   have tlsU:=tls2.below bU
   have belU:=below_step bU bel2
   have hSU:=below_block bU hS
   have HNB:Hid (∀ j u,[Value.int .i64 1,.int .i64 0,.int .i64 0,.slice (some ⟨S,0,none⟩) 1 1,.int .i64 t,.int .i64 v,.string ⟨#[]⟩][j]?=some u→U.cell? ((⟨w2.heap.size,0,none⟩:Addr).add j)=some u):=by
    refine seg_news ?_
    rw [hU]
    have:=seg_new w2 #[.int .i64 1,.int .i64 0,.int .i64 0,.slice (some ⟨S,0,none⟩) 1 1,.int .i64 t,.int .i64 v,.string ⟨#[]⟩] 36
    simpa using this
   have H1:Hid (∀ u∈[Value.int .i64 1,.int .i64 0,.int .i64 0,.slice (some ⟨S,0,none⟩) 1 1,.int .i64 t,.int .i64 v,.string ⟨#[]⟩],u.oneCell'=true):=by
    intro u hu
    simp only [List.mem_cons,List.not_mem_nil,or_false] at hu
    rcases hu with e | e | e | e | e | e | e <;> (subst e;rfl)
   have hs2:U.heap.size=w2.heap.size+1:=by rw [hU];simp
   have hws:w.heap.size≤U.heap.size:=belU.size
   have HU:=hide hU
   clear PA own0 tls0 bel0 own2 tls2 bel2 bU hU hS b2
   go_wp2_with (rw [← HU.out];at_builtin;refine wpList_append_lies _ rfl _ _ 22 rfl w.heap.size 36 i0 (.agg #[.int .i64 0,.int .i64 0,.int .i64 0,.slice none 0 0,.int .i64 0,.int .i64 0,.string ⟨#[]⟩]) 7 80 Tryz.underlying22 hi hz0 hz1 hz2 rfl (by decide) _ _ _ rfl ownU ⟨w2.heap.size,0,none⟩ 1 1 [.int .i64 1,.int .i64 0,.int .i64 0,.slice (some ⟨S,0,none⟩) 1 1,.int .i64 t,.int .i64 v,.string ⟨#[]⟩] rfl rfl HNB.out H1.out (by decide) (by unfold maxLen;omega) (by omega) hws (w2.heap.size+1) hs2 ?_)
   intro g' cp' wz ownZ grZ hatZ hltZ
   have own':wz.ownsRow w.heap.size 36 7 (.slice (some ⟨g',0,none⟩) (k+1) cp') (k+1) (dcells (ds++[⟨dAdd aBy t v,some ⟨S,0,none⟩,1⟩])):=by
    rw [dcells_append]
    exact ownZ
   have tls':Tls wz (ds++[⟨dAdd aBy t v,some ⟨S,0,none⟩,1⟩]):=by
    intro x hx
    rcases List.mem_append.1 hx with e | e
    ·exact tlsU.row ownU grZ (by decide) x e
    ·simp at e
     exact ⟨S,t,v,e,blk_beside ownU grZ hSU (by decide)⟩
   have HD':Hid (dns (ds++[⟨dAdd aBy t v,some ⟨S,0,none⟩,1⟩])=toldD (l.take (k+1))):=by
    show _=_
    rw [dns_append,HD.out,HT.out];rfl
   have belZ:Below w.heap.size w wz:=belU.grown grZ hws (fun j hj=>(own_base ownU j hj).1)
   clear ownU tlsU belU ownZ grZ hatZ hltZ HNB HD HT hSU
   go_wp2
   go_roundw
   case rel=>exact ⟨k+1,cp',_,_,by omega,by go_num,rfl,own',HD',tls',belZ⟩
   case measure=>simp [intOf];omega
  ·have he:k=n:=by omega
   subst he
   have hd:=HD.out
   rw [List.take_of_length_le (by rw [← HN.out];exact Nat.le_refl _)] at hd
   have FIN:=hide (And.intro own (And.intro hd (And.intro tls bel)))
   clear own HD hd tls bel
   go_wp2
   go_ret
   exact ⟨_,_,_,rfl,FIN.out.1,FIN.out.2.1,FIN.out.2.2.1,FIN.out.2.2.2⟩
theorem field_fault (x:Value) (z:Int) (w:World):(Instr.field 43 (.agg #[.int .i64 z,x]) 0).run Tryz.prog w=.ok (.int .i64 z) w:=by
 simp [Instr.field,go_sem,asAgg]
def smallB (l:List (Int×Int)):Bool:=decide ((Grain.wrong l).1=0∧l.length≤60∧(l.length=0∨(l.getD (l.length-1) (0,0)).1≤5000))
set_option maxRecDepth 20000 in
set_option maxHeartbeats 4000000 in
theorem tsmall_any (l:List (Int×Int)) (ao:Option Addr) (n cap:Nat) (w:World) (hs:Seg w ao (scells l)) (hn:n=l.length) (h63:n≤9223372036854775806) :
  Calls Tryz.prog 23 #[.slice ao n cap] w fun e w'=>e=.returned (.bool (smallB l))∧Below w.heap.size w w':=by
 obtain ⟨B,hB⟩:∃ B,B=smallB l:=⟨_,rfl⟩
 obtain ⟨E,hE⟩:∃ E,E=(Grain.wrong l).1:=⟨_,rfl⟩
 obtain ⟨F,hF⟩:∃ F,F=(Grain.wrong l).2:=⟨_,rfl⟩
 have P1:=hide (wrong_len l ao n cap w hs hn)
 rw [← hE,← hF] at P1
 rw [← hB]
 unfold smallB at hB
 rw [← hE,← hn] at hB
 have HB:=hide hB
 have HS:=hide hs
 have HN:=hide hn
 clear hB hE hF hs hn
 go_enter Tryz.func23,Tryz.ntmps23
 go_wp2_with fail
 refine P1.out.mono ?_
 rintro e w1 ⟨rfl,b1⟩
 clear P1
 have HFd:=fun (z:Int)=>field_fault (.int .i64 F) z w1
 by_cases h1:E=0
 ·by_cases h2:n≤60
  ·by_cases h3:n=0
   ·have hb:B=true:=by rw [HB.out];simp [h1,h3]
    subst h1 h3 hb
    go_wp2
    go_ret
    exact ⟨rfl,b1⟩
   ·have hl:n-1<l.length:=by rw [← HN.out];omega
    obtain ⟨b,off,rfl,hbl,c0,c1⟩:=seg_sample HS.out hl
    have eg:l.getD (n-1) (0,0)=l[n-1]:=by simp [List.getD,List.getElem?_eq_getElem hl]
    obtain ⟨t,ht⟩:∃ t,t=(l[n-1]).1:=⟨_,rfl⟩
    have k0:w1.cell? ⟨b,off+(n-1)*2,none⟩=some (.int .i64 t):=by rw [ht];exact (b1.cell (p:=⟨b,_,none⟩) hbl).trans c0
    have hb:B=decide (t≤5000):=by rw [HB.out,eg,← ht];simp [h1,h2,h3]
    have hn1:((n:Int)-1).toNat=n-1:=by omega
    have d2:decide ((n:Int)≤60)=true:=by simp;omega
    have d3:((n:Int) == 0)=false:=by simp;omega
    have hwr:wrap64 ((n:Int)-1)=((n-1:Nat):Int):=by unfold wrap64;omega
    subst h1
    clear HB eg ht c0 c1
    subst hb
    go_wp2
    all_goals (go_ret;exact ⟨by simp_all,b1⟩)
  ·have hb:B=false:=by rw [HB.out];simp [h2]
   have d2:decide ((n:Int)≤60)=false:=by simp;omega
   subst h1 hb
   go_wp2
   go_ret
   exact ⟨rfl,b1⟩
 ·have hb:B=false:=by rw [HB.out];simp [h1]
  have d1:(E == 0)=false:=by simpa using h1
  subst hb
  go_wp2
  go_ret
  exact ⟨rfl,b1⟩
end Go.Proofs.YtoldmigappbjcaaGreatDoor
namespace Grain
theorem sroll_eq {s:Shf} {t:Int} (h:(sroll s t).2=0):(sroll s t).1 = { s with fi:=nfi s t,co:=nco s t,ft:=nft s t,ct:=nct s t }:=by
 unfold sroll at *
 by_cases h1:wrongAt s t≠0
 ·rw [if_pos h1] at h;exact absurd h h1
 rw [if_neg h1] at h ⊢
 by_cases h2:500<(nfi s t).length
 ·rw [if_pos h2] at h;exact absurd h (by simp)
 rw [if_neg h2] at h ⊢
 by_cases h3:500<(nco s t).length
 ·rw [if_pos h3] at h;exact absurd h (by simp)
 rw [if_neg h3]
theorem choose_none {s:Shf} (sr:SR s) {f t:Int} (h0:0≤f) (hft:f<t) (ht:t≤1000000) (h1:f<s.rf) (h2:f<s.ff) (h3:f<s.cf):(choose s f t).2=10:=by
 unfold choose
 rw [if_neg (by simp [(sr_iff s).2 sr]),if_neg (by omega)]
 obtain ⟨n,hn⟩:∃ n,(t-f).toNat=n+1:=⟨(t-f).toNat-1,by omega⟩
 have m:¬ may s (nxt s f t)=true:=by
  have a1:¬ (f+60≤t∧may s ⟨2,f,f+60⟩=true):=by
   rintro ⟨_,m⟩
   rcases may_cases m with ⟨k,_⟩ | ⟨k,_⟩ | ⟨k,q1,q2,q3,q4⟩
   ·simp at k
   ·simp at k
   ·simp only at q3;omega
  have a2:¬ (f+10≤t∧may s ⟨1,f,f+10⟩=true):=by
   rintro ⟨_,m⟩
   rcases may_cases m with ⟨k,_⟩ | ⟨k,q1,q2,q3,q4⟩ | ⟨k,_⟩
   ·simp at k
   ·simp only at q3;omega
   ·simp at k
  have a3:∀ z,¬ may s ⟨0,f,z⟩=true:=by
   intro z m
   rcases may_cases m with ⟨k,q⟩ | ⟨k,_⟩ | ⟨k,_⟩
   ·simp only at q;omega
   ·simp at k
   ·simp at k
  unfold nxt
  rw [if_neg a1,if_neg a2]
  split
  ·exact a3 _
  ·exact a3 _
 rw [hn,chs,if_pos hft,if_neg m]
end Grain
namespace Go.Proofs.YtoldmigappbjcaaGreatDoor
open Go.RowKit Go.GrainU
structure RolB (b:Bs) (A:List (Int×Int)):Prop where
 i:BInv b
 w:Whole b
 hz:b.hz=6000
 ln:lnsB b.l=if A=[] then [] else [(srsA,A)]
 ct:∀ k∈b.l,k.s.ct=6000∧k.s.cf=0∧k.s.ff=0
theorem rol_of {b:Bs} {A:List (Int×Int)} (h:OneB b A) (h5:A.length≤500):RolB (rollB b 6000).1 A∧(rollB b 6000).2=0:=by
 have hf:=h.few h5
 have e:=rollB_ok h.i hf (t:=6000) (by omega) (by omega)
 refine ⟨⟨rollB_inv h.i _,whole_roll h.w _,?_,by rw [lns_roll];exact h.ln,?_⟩,by rw [e]⟩
 ·rw [e]
  show max b.hz (Grain.beg 6000 10)=6000
  rw [h.hz];decide
 ·rw [e]
  intro k hk
  obtain ⟨x,hx,rfl⟩:=List.mem_map.1 hk
  have h0:=Grain.sroll_ok (h.i.kee x hx) (hf x hx) (t:=6000) (by omega) (by omega)
  have hft:x.s.ft=0:=by rw [h.i.ft x hx,h.hz]
  have hsr:=(h.i.kee x hx).sr
  have f1:=hsr.csp
  have f2:=hsr.bd
  have f3:=hsr.fsp
  show (Grain.sroll x.s 6000).1.ct=6000∧(Grain.sroll x.s 6000).1.cf=0∧(Grain.sroll x.s 6000).1.ff=0
  rw [Grain.sroll_eq h0]
  refine ⟨?_,by show x.s.cf=0;omega,by show x.s.ff=0;omega⟩
  show max x.s.ct (Grain.beg (max x.s.ft (Grain.beg 6000 10)) 60)=6000
  rw [hft,show x.s.ct=0 from by omega]
  decide
def eWin (wd:ByteArray) (R:Int):Ex:=.mk ⟨2,0,R,wd,[],[]⟩ []
theorem win_chk {wd:ByteArray} (hw:has words8 wd=true) {R T:Int} (r1:1≤R) (r2:R≤100000) (t1:0≤T) (t2:T≤1000000):chk (eWin wd R) T=0∧(wr (eWin wd R) 1 0).1=0∧winBad ⟨2,0,R,wd,[],[]⟩=0:=by
 have hb:winBad ⟨2,0,R,wd,[],[]⟩=0:=by
  unfold winBad
  rw [if_neg (by simp [hw]),if_neg (by simp),if_pos (show msBad ([]:List Mt)=0 from rfl),if_neg (by simp only;omega)]
 have ha:alone ⟨2,0,R,wd,[],[]⟩ 0=0:=by
  unfold alone
  rw [if_neg (by simp),if_pos rfl,if_pos rfl,hb]
 have hwr:wr (eWin wd R) 1 0=(0,0+1):=by
  unfold eWin
  rw [wr,if_neg (by omega),if_pos (by simpa using ha),wrL]
 refine ⟨?_,by rw [hwr],hb⟩
 unfold chk
 rw [hwr,if_pos rfl]
 have ht:typ (eWin wd R)=0:=by unfold eWin;rw [typ,if_neg (by simp),typL]
 rw [if_pos ht,if_neg (by omega)]
open Go.RowKit Go.GrainU
def etN (n:Int):ET:=.node ⟨1,n,0,lit [],[],[]⟩ ⟨none,0,none,0,none,0⟩ []
theorem etN_prt {n:Int} (h0:0≤n) (h1:n≤1000000):prt (etN n).ex=(itoaB n,0):=by
 have e:(etN n).ex=.mk ⟨1,n,0,lit [],[],[]⟩ []:=rfl
 have ha:alone ⟨1,n,0,lit [],[],[]⟩ 0=0:=by
  unfold alone
  rw [if_pos rfl,if_pos rfl,if_neg (by simp only;omega)]
 have hwr:wr (.mk ⟨1,n,0,lit [],[],[]⟩ []) 1 0=(0,0+1):=by
  rw [wr,if_neg (by omega),if_pos (by simpa using ha),wrL]
 have hrt:=(wr_ok _ 1 0 (by omega) (show (wr (.mk ⟨1,n,0,lit [],[],[]⟩ []) 1 0).1=0 by rw [hwr])).1
 have hs:=tx_size _ hrt
 have hc:cnt (.mk ⟨1,n,0,lit [],[],[]⟩ [])=1:=rfl
 rw [hc] at hs
 have ht:tx (.mk ⟨1,n,0,lit [],[],[]⟩ [])=itoaB n:=by rw [tx,bodyT,if_pos rfl]
 unfold prt
 rw [e,hwr,if_pos rfl,if_neg (by omega),ht]
theorem etN_in (n:Int) (w:World):(etN n).In w:=by
 unfold etN
 simp only [ET.In]
 refine ⟨⟨.inl rfl,.inl rfl,.inl rfl⟩,?_,?_⟩
 ·simp [lit];decide
 ·exact inL_of fun k hk=>by cases hk
set_option maxHeartbeats 1000000 in
theorem titoa_any (n:Int) (h0:0≤n) (h1:n≤1000000) (w:World) (hT:Tab w) :
  Calls Tryz.prog 32 #[.int .i64 n] w fun e w'=>e=.returned (.string (itoaB n))∧Below w.heap.size w w':=by
 have P:=hide (pprint_any (etN n) w (etN_in n w) hT)
 rw [etN_prt h0 h1] at P
 obtain ⟨S,hS⟩:∃ S,S=itoaB n:=⟨_,rfl⟩
 rw [← hS] at P ⊢
 have ev:eval (etN n)=.agg #[.int .i64 1,.int .i64 n,.int .i64 0,.string ⟨#[]⟩,.slice none 0 0,.slice none 0 0,.slice none 0 0]:=rfl
 rw [ev] at P
 clear hS ev
 go_enter Tryz.func32,Tryz.ntmps32
 go_wp2_with fail
 refine P.out.mono ?_
 rintro e w1 ⟨rfl,b1⟩
 clear P
 go_wp2
 go_ret
 exact ⟨rfl,b1⟩
theorem win_text {wd:ByteArray} (hw:has words8 wd=true) {R T:Int} (r1:1≤R) (r2:R≤100000) (t1:0≤T) (t2:T≤1000000):prs (wd++lit [40,123]++lit []++lit [125,91]++itoaB R++lit [93,41]).data.toList=.ok (eWin wd R):=by
 have hwr:=(win_chk hw r1 r2 t1 t2).2.1
 have hrt:=(wr_ok _ 1 0 (by omega) hwr).1
 have hs:=tx_size _ hrt
 have hc:cnt (eWin wd R)=1:=rfl
 rw [hc] at hs
 have:=prs_tx hwr (by omega)
 have et:tx (eWin wd R)=wd++lit [40,123]++lit []++lit [125,91]++itoaB R++lit [93,41]:=by
  unfold eWin
  rw [tx,bodyT,if_neg (by simp),if_pos rfl]
  rfl
 have eb:bare (eWin wd R)=eWin wd R:=by
  unfold eWin
  rw [bare,bareL]
  rfl
 rw [eb,et] at this
 exact this
theorem count_text {R T:Int} (r1:1≤R) (r2:R≤100000) (t1:0≤T) (t2:T≤1000000):prs (ByteArray.mk #[99,111,117,110,116,40,123,125,91]++itoaB R++ByteArray.mk #[93,41]).data.toList=.ok (eWin (lit [99,111,117,110,116]) R):=by
 have h:=win_text (wd:=lit [99,111,117,110,116]) (by kernel_rfl) r1 r2 t1 t2
 have e:lit [99,111,117,110,116]++lit [40,123]++lit []++lit [125,91]=ByteArray.mk #[99,111,117,110,116,40,123,125,91]:=by kernel_rfl
 rw [e] at h
 exact h
end Go.Proofs.YtoldmigappbjcaaGreatDoor
namespace Grain
theorem choose_one {s:Shf} (sr:SR s) {f:Int} (h0:0≤f) (hf:f%60=0) (hc:s.cf≤f) (ht:f+60≤s.ct):(choose s f (f+60)).2=0:=by
 have f2:=sr.csp
 unfold choose
 rw [if_neg (by simp [(sr_iff s).2 sr]),if_neg (by omega)]
 have hn:(f+60-f).toNat=59+1:=by omega
 have m:may s ⟨2,f,f+60⟩=true:=by
  unfold may
  rw [if_neg (by simp only;omega),if_neg (by simp),if_neg (by simp),if_pos rfl]
  simp only [decide_eq_true_eq]
  omega
 have en:nxt s f (f+60)=⟨2,f,f+60⟩:=by rw [nxt,if_pos ⟨by omega,m⟩]
 rw [hn,chs,if_pos (by omega),en,if_pos m,chs_end (by simp)]
end Grain
namespace Go.Proofs.YtoldmigappbjcaaGreatDoor
open Go.RowKit Go.GrainU
def dForg (k t:Int):Dn:=⟨3,k,t,[],0,0,⟨#[]⟩⟩
structure GonB (b:Bs) (A:List (Int×Int)) (x y z:Int):Prop where
 i:BInv b
 hz:b.hz=6000
 ln:lnsB b.l=[(srsA,A)]
 ct:∀ k∈b.l,k.s.ct=6000∧k.s.rf=x∧k.s.ff=y∧k.s.cf=z
theorem gon_of {b:Bs} {A:List (Int×Int)} (h:RolB b A) (hA:A≠[]):GonB b A 0 0 0 :=
 ⟨h.i,h.hz,by rw [h.ln,if_neg hA],fun k hk=>⟨(h.ct k hk).1,h.w k hk,(h.ct k hk).2.2,(h.ct k hk).2.1⟩⟩
theorem lns_forg (b:Bs) (k t:Int):lnsB (forgB b k t).1.l=lnsB b.l:=by
 unfold forgB
 split
 ·rfl
 ·split
  ·cases he:eachB (fun s=>Grain.sforg s k t) b.l with
   | error x=>rfl
   | ok l=>exact eachB_se (fun s hz=>(sforg_same hz).1) _ _ he
  ·rfl
theorem gon_raw {b:Bs} {A:List (Int×Int)} {y z t:Int} (h:GonB b A 0 y z) (h0:0≤t) (h1:t≤6000):GonB (forgB b 0 t).1 A t y z:=by
 have e:=forgB_ok h.i (k:=0) (t:=t) h0 (by omega) (.inl rfl)
 refine ⟨forgB_inv h.i _ _,by rw [e];exact h.hz,by rw [lns_forg];exact h.ln,?_⟩
 rw [e]
 intro k hk
 obtain ⟨x,hx,rfl⟩:=List.mem_map.1 hk
 have hs:=h.ct x hx
 have hft:x.s.ft=6000:=by rw [h.i.ft x hx,h.hz]
 have hw:=Grain.wrongAt_of (h.i.kee x hx).sr h0 (by omega:t≤1000000)
 show (Grain.sforg x.s 0 t).1.ct=6000∧(Grain.sforg x.s 0 t).1.rf=t∧(Grain.sforg x.s 0 t).1.ff=y∧(Grain.sforg x.s 0 t).1.cf=z
 unfold Grain.sforg
 rw [if_neg (by rw [hw];simp),if_pos rfl]
 refine ⟨hs.1,?_,hs.2.2.1,hs.2.2.2⟩
 show max x.s.rf (min t x.s.ft)=t
 omega
theorem gon_fine {b:Bs} {A:List (Int×Int)} {x z t:Int} (h:GonB b A x 0 z) (h0:0≤t) (h1:t≤6000) (h2:t%60=0):GonB (forgB b 1 t).1 A x t z:=by
 have e:=forgB_ok h.i (k:=1) (t:=t) h0 (by omega) (.inr (.inl rfl))
 refine ⟨forgB_inv h.i _ _,by rw [e];exact h.hz,by rw [lns_forg];exact h.ln,?_⟩
 rw [e]
 intro k hk
 obtain ⟨q,hq,rfl⟩:=List.mem_map.1 hk
 have hs:=h.ct q hq
 have hw:=Grain.wrongAt_of (h.i.kee q hq).sr h0 (by omega:t≤1000000)
 show (Grain.sforg q.s 1 t).1.ct=6000∧(Grain.sforg q.s 1 t).1.rf=x∧(Grain.sforg q.s 1 t).1.ff=t∧(Grain.sforg q.s 1 t).1.cf=z
 unfold Grain.sforg
 rw [if_neg (by rw [hw];simp),if_neg (by decide),if_pos rfl]
 refine ⟨hs.1,hs.2.1,?_,hs.2.2.2⟩
 show max q.s.ff (Grain.beg (min t q.s.ct) 10)=t
 rw [hs.1,hs.2.2.1]
 unfold Grain.beg
 omega
theorem gon_coarse {b:Bs} {A:List (Int×Int)} {x y t:Int} (h:GonB b A x y 0) (h0:0≤t) (h1:t≤6000) (h2:t%60=0):GonB (forgB b 2 t).1 A x y t:=by
 have e:=forgB_ok h.i (k:=2) (t:=t) h0 (by omega) (.inr (.inr rfl))
 refine ⟨forgB_inv h.i _ _,by rw [e];exact h.hz,by rw [lns_forg];exact h.ln,?_⟩
 rw [e]
 intro k hk
 obtain ⟨q,hq,rfl⟩:=List.mem_map.1 hk
 have hs:=h.ct q hq
 have hw:=Grain.wrongAt_of (h.i.kee q hq).sr h0 (by omega:t≤1000000)
 show (Grain.sforg q.s 2 t).1.ct=6000∧(Grain.sforg q.s 2 t).1.rf=x∧(Grain.sforg q.s 2 t).1.ff=y∧(Grain.sforg q.s 2 t).1.cf=t
 unfold Grain.sforg
 rw [if_neg (by rw [hw];simp),if_neg (by decide),if_neg (by decide),if_pos rfl]
 refine ⟨hs.1,hs.2.1,hs.2.2.1,?_⟩
 show max q.s.cf (Grain.beg (min t q.s.ct) 60)=t
 rw [hs.1,hs.2.2.2]
 unfold Grain.beg
 omega
theorem GonB.few {b:Bs} {A:List (Int×Int)} {x y z:Int} (h:GonB b A x y z) (h5:A.length≤500):FewB 500 b∧b.l.length=1:=by
 have hl:=congrArg List.length h.ln
 rw [lnsB_len] at hl
 have h1:b.l.length=1:=by simpa using hl
 refine ⟨fun k hk=>?_,h1⟩
 obtain ⟨j,hj,rfl⟩:=List.mem_iff_getElem.1 hk
 have e:=lnn_lnsB hj
 rw [h.ln,kp_get hj] at e
 have:j=0:=by omega
 subst this
 simp [lnn] at e
 rw [← e.2];exact h5
theorem overW_one {b:Bs} (h1:b.l.length=1) (wd:ByteArray) (R T:Int) {E:Int} (he:lookS (kp b.l 0).s (max 0 (T-R)) T=.error E):overW (fun i f t=>lookS (kp b.l i).s f t) (sersB b.l) b.l.length T ⟨2,0,R,wd,[],[]⟩=.error E:=by
 unfold overW
 rw [h1,winT,winT]
 have hs:says (st (sersB b.l) 0).ser ([]:List Mt)=true:=by simp [says]
 simp only [hs,if_true]
 rw [he]
theorem look_ok {s:Grain.Shf} {f t:Int} (hc:(Grain.choose s f t).2=0):∃ J,lookS s f t=.ok J:=by
 obtain ⟨hv,_,hw⟩:=Grain.choose_ok hc
 have hf:=Grain.cvr_fol hv
 have hrd:Grain.read s (Grain.choose s f t).1=(Grain.rdS s (Grain.choose s f t).1,(Grain.rdN s (Grain.choose s f t).1:Int),0):=by
  unfold Grain.read
  rw [if_neg (by simp [hw]),if_neg (by rw [hf];decide)]
 unfold lookS
 rw [if_pos hc,hrd]
 exact ⟨_,rfl⟩
theorem gone_x {b:Bs} {A:List (Int×Int)} {t:Int} (h:GonB b A t t t) (h5:A.length≤500) {wd:ByteArray} (hw:has words8 wd=true) (h0:60≤t) (h1:t≤4800):(anE b t (eWin wd t)).err=10:=by
 obtain ⟨hf,hl⟩:=h.few h5
 obtain ⟨hc,_,hwb⟩:=win_chk hw (R:=t) (T:=t) (by omega) (by omega) (by omega) (by omega)
 have h0':0<b.l.length:=by omega
 have hs:=h.ct _ (kp_mem h0')
 have hg:=Grain.choose_none (h.i.kee _ (kp_mem h0')).sr (f:=0) (t:=t) (by omega) (by omega) (by omega) (by omega) (by omega) (by omega)
 have hlook:lookS (kp b.l 0).s (max 0 (t-t)) t=.error 10:=by
  rw [show max 0 (t-t)=0 from by omega]
  unfold lookS
  rw [if_neg (by rw [hg];decide),hg]
 have he:askE b t (eWin wd t)=.error 10:=by
  unfold askE overE
  rw [if_pos hc]
  unfold eWin
  rw [evG,if_neg (by simp),if_pos rfl,overW_one hl wd t t hlook]
 unfold anE
 rw [he]
theorem gone_y {b:Bs} {A:List (Int×Int)} {t:Int} (h:GonB b A t t t) (h5:A.length≤500) {wd:ByteArray} (hw:has words8 wd=true) (h0:60≤t) (h1:t≤4800) (h2:t%60=0):(anE b (t+60) (eWin wd 60)).err=0:=by
 obtain ⟨hf,hl⟩:=h.few h5
 obtain ⟨hc,_,hwb⟩:=win_chk hw (R:=60) (T:=t+60) (by omega) (by omega) (by omega) (by omega)
 have h0':0<b.l.length:=by omega
 have hs:=h.ct _ (kp_mem h0')
 have hg:=Grain.choose_one (h.i.kee _ (kp_mem h0')).sr (f:=t) (by omega) h2 (by omega) (by omega)
 have hlook:∃ J,lookS (kp b.l 0).s (max 0 (t+60-60)) (t+60)=.ok J:=by
  rw [show max 0 (t+60-60)=t from by omega]
  exact look_ok hg
 obtain ⟨J,hJ⟩:=hlook
 have hov:=(winT_base h.i hf (time:=t+60) (by omega) (by omega) ⟨2,0,60,wd,[],[]⟩ hwb).resolve_left (fun ho=>by
  obtain ⟨i,hi,hs'⟩:=winT_error _ ho
  have:i=0:=by omega
  subst this
  have hs2:lookS (kp b.l 0).s (max 0 (t+60-60)) (t+60)=.error 10:=hs'
  rw [hJ] at hs2
  cases hs2)
 have he:askE b (t+60) (eWin wd 60)=.ok ⟨false,winC (lnsB b.l) ⟨2,0,60,wd,[],[]⟩ (t+60)⟩:=by
  unfold askE overE
  rw [if_pos hc]
  unfold eWin
  rw [evG,if_neg (by simp),if_pos rfl,hov]
 unfold anE
 rw [he]
theorem gone_base {l:List (Int×Int)} (hr:(Grain.wrong l).1=0) (hl:l≠[]) {t:Int} (h0:0≤t) (h1:t≤4800) (h2:t%60=0):GonB (playB b0 (toldD l++[dRoll 6000]++[dForg 0 t]++[dForg 1 t]++[dForg 2 t])).1 l t t t:=by
 have h5:=((Grain.right_iff l).1 hr).1
 have a1:=gon_of (rol_of (told_full hr) h5).1 hl
 have a2:=gon_raw a1 h0 (by omega:t≤6000)
 have a3:=gon_fine a2 h0 (by omega:t≤6000) h2
 have a4:=gon_coarse a3 h0 (by omega:t≤6000) h2
 rw [playB_snoc,playB_snoc,playB_snoc,playB_snoc]
 exact a4
end Go.Proofs.YtoldmigappbjcaaGreatDoor
namespace Go.GrainU
open Go.RowKit
theorem count_size {R:Int} (r1:1≤R) (r2:R≤100000):(ByteArray.mk #[99,111,117,110,116,40,123,125,91]++itoaB R++ByteArray.mk #[93,41]).size≤300:=by
 have hb:winBad ⟨2,0,R,lit [99,111,117,110,116],[],[]⟩=0:=by
  unfold winBad
  rw [if_neg (by rw [show has words8 (lit [99,111,117,110,116])=true from by kernel_rfl];decide),if_neg (by simp),if_pos (show msBad ([]:List Mt)=0 from rfl),if_neg (by simp only;omega)]
 have ha:alone ⟨2,0,R,lit [99,111,117,110,116],[],[]⟩ 0=0:=by
  unfold alone
  rw [if_neg (by simp),if_pos rfl,if_pos rfl,hb]
 have hsz:=tx_size (.mk ⟨2,0,R,lit [99,111,117,110,116],[],[]⟩ []) (.mk _ _ ha (fun k hk=>by cases hk))
 have et:tx (.mk ⟨2,0,R,lit [99,111,117,110,116],[],[]⟩ [])=lit [99,111,117,110,116]++lit [40,123]++lit []++lit [125,91]++itoaB R++lit [93,41]:=by
  rw [tx,bodyT,if_neg (by simp),if_pos rfl]
  rfl
 have e:lit [99,111,117,110,116]++lit [40,123]++lit []++lit [125,91]=ByteArray.mk #[99,111,117,110,116,40,123,125,91]:=by kernel_rfl
 rw [et,e] at hsz
 exact hsz
end Go.GrainU
namespace Go.Proofs.YtoldmigappbjcaaGreatDoor
open Go.RowKit Go.GrainU
def Dlx (w:World) (x:DT):Prop:=(∃ S h t v,x=⟨dAdd h t v,some ⟨S,0,none⟩,1⟩∧h.size≤9223372036854775807∧w.heap[S]?=some (.cells #[.string hostB,.string h] 88 (0,0)))∨(∃ d,x=⟨d,none,0⟩∧d.se=[]∧d.tx.size≤9223372036854775807)
def Dls (w:World) (l:List DT):Prop:=∀ x∈l,Dlx w x
theorem Dlx.below {w w':World} {x:DT} (h:Dlx w x) (hb:Below w.heap.size w w'):Dlx w' x:=by
 rcases h with ⟨S,h,t,v,e,hh,hS⟩ | h
 ·exact .inl ⟨S,h,t,v,e,hh,below_block hb hS⟩
 ·exact .inr h
theorem Dls.below {w w':World} {l:List DT} (h:Dls w l) (hb:Below w.heap.size w w'):Dls w' l:=fun x hx=>(h x hx).below hb
theorem Dls.of {w:World} {l:List DT} (h:Tls w l):Dls w l:=fun x hx=>by
 obtain ⟨S,t,v,e,hS⟩:=h x hx
 exact .inl ⟨S,aBy,t,v,e,by decide,hS⟩
theorem Dls.row {w w':World} {base e size n:Nat} {l:List DT} {v:Value} {xs:List Value} (h:Dls w l) (ho:w.ownsRow base e size v n xs) (hg:w.grownBy w' v.ownBlock) (ht:88≠e):Dls w' l:=fun x hx=>by
 rcases h x hx with ⟨S,h,t,v,e,hh,hS⟩ | h
 ·exact .inl ⟨S,h,t,v,e,hh,blk_beside ho hg hS ht⟩
 ·exact .inr h
theorem Dls.push {w:World} {l:List DT} {x:DT} (h:Dls w l) (hx:Dlx w x):Dls w (l++[x]):=fun y hy=>by
 rcases List.mem_append.1 hy with e | e
 ·exact h y e
 ·simp at e;rw [e];exact hx
theorem Dls.din {w:World} {l:List DT} (h:Dls w l):∀ x∈l,DIn w x:=fun x hx=>by
 rcases h x hx with ⟨S,h,t,v,e,hh,hS⟩ | ⟨d,e,h1,h2⟩
 ·rw [e];exact din_blk hS hh
 ·rw [e];exact din_none _ _ h1 h2
theorem dcells_one (l:List DT):∀ u∈dcells l,u.oneCell'=true:=by
 induction l with
 | nil=>intro u hu;cases hu
 | cons x r ih =>
  intro u hu
  rcases List.mem_append.1 (show u∈x.cells++dcells r from hu) with e | e
  ·simp only [DT.cells,List.mem_cons,List.not_mem_nil,or_false] at e
   rcases e with e | e | e | e | e | e | e <;> (subst e;rfl)
  ·exact ih u e
open Go.RowKit Go.GrainU
def forgs (t:Int):Nat→List DT
 | 0=>[]
 | k+1=>forgs t k++[⟨dForg k t,none,0⟩]
theorem gone_pure {l:List (Int×Int)} (hr:(Grain.wrong l).1=0) (h6:l.length≤60) (hl:l≠[]) {t:Int} (h0:60≤t) (h1:t≤4800) (h2:t%60=0) {s s':ByteArray} (hs:prs s.data.toList=.ok (eWin (lit [99,111,117,110,116]) t)) (hs':prs s'.data.toList=.ok (eWin (lit [99,111,117,110,116]) 60)) :
  (lastA (toldD l++[dRoll 6000]++[dForg 0 t]++[dForg 1 t]++[dForg 2 t]++[dAsk s t])).err=10∧(lastA (toldD l++[dRoll 6000]++[dForg 0 t]++[dForg 1 t]++[dForg 2 t]++[dAsk s' (t+60)])).err=0:=by
 have h:=gone_base hr hl (by omega:0≤t) h1 h2
 have e2:∀ (c:Bs) (q:ByteArray) (z:Int),(doB c (dAsk q z)).2=askB c q z:=fun c q z=>rfl
 constructor
 ·rw [lastA_snoc (by simp [toldD];omega),e2]
  unfold askB
  rw [hs]
  exact gone_x h (by omega) (by kernel_rfl) h0 h1
 ·rw [lastA_snoc (by simp [toldD];omega),e2]
  unfold askB
  rw [hs']
  exact gone_y h (by omega) (by kernel_rfl) h0 h1 h2
set_option maxRecDepth 20000 in
set_option maxHeartbeats 8000000 in
theorem tgone_any (l:List (Int×Int)) (tt:Int) (ao:Option Addr) (n cap:Nat) (w:World) (hs:Seg w ao (scells l)) (hn:n=l.length) (_hcap:n≤cap∧cap≤9223372036854775807) (_hnil:ao=none→n=0∧cap=0) (hT:Tab w) (hv:ErrV w) (h63:n≤9223372036854775806) :
  Calls Tryz.prog 9 #[.slice ao n cap,.int .i64 tt] w fun e w'=>e=.returned (.bool true)∧Below w.heap.size w w':=by
 obtain ⟨i0,hi,hz0,hz1,hz2⟩:=sinfo_parts Tryz.infoDo
 have P0:=hide (talive_any w hv)
 have P1:=hide (fun (W:World) (hb:Below w.heap.size w W)=>tsmall_any l ao n cap W (hs.below hb) hn h63)
 have P3:=hide (fun (W:World) (hb:Below w.heap.size w W) (h:n≤60)=>ttold_any l ao n cap W (hs.below hb) hn (by omega))
 have HN:=hide hn
 have HV:=hide hv
 have HT:=hide hT
 clear hs hn hv hT
 go_enter Tryz.func9,Tryz.ntmps9
 go_wp2_with fail
 refine P0.out.mono ?_
 rintro e w1 ⟨rfl,b1⟩
 have P1':=hide (P1.out w1 b1)
 clear P0 P1
 obtain ⟨B,hB⟩:∃ B,B=smallB l:=⟨_,rfl⟩
 rw [← hB] at P1'
 go_wp2_with fail
 refine P1'.out.mono ?_
 rintro e w2 ⟨rfl,b2'⟩
 have b2:=below_step b2' b1
 clear P1' b1 b2'
 by_cases hBt:B=false
 ·subst hBt
  clear hB P3
  go_wp2
  go_ret
  exact ⟨rfl,b2⟩
 have hBt':B=true:=by simpa using hBt
 subst hBt'
 clear hBt
 unfold smallB at hB
 have hsm:=of_decide_eq_true hB.symm
 obtain ⟨hr,h6,-⟩:=hsm
 have HR:=hide hr
 have h6n:n≤60:=by rw [HN.out];exact h6
 have H6:=hide h6
 clear hB hr h6
 by_cases hn0:n=0
 ·subst hn0
  clear P3
  go_wp2
  go_ret
  exact ⟨rfl,b2⟩
 have dn:((n:Int) == 0)=false:=by simp;omega
 by_cases ha:tt<1
 ·clear P3
  go_wp2
  go_ret
  exact ⟨rfl,b2⟩
 have da:decide (tt<1)=false:=by simpa using ha
 by_cases hb8:80<tt
 ·clear P3
  go_wp2
  go_ret
  exact ⟨rfl,b2⟩
 have d8:decide (80<tt)=false:=by simpa using hb8
 have hln:l≠[]:=fun h=>hn0 (by rw [HN.out,h];rfl)
 obtain ⟨t,ht⟩:∃ t,t=tt*60:=⟨_,rfl⟩
 have s1:wrap64 (tt*60)=t:=by rw [ht];unfold wrap64;omega
 have t0:60≤t:=by omega
 have t1:t≤4800:=by omega
 have t2:t%60=0:=by omega
 have s2:wrap64 (t+60)=t+60:=by unfold wrap64;omega
 have P3':=hide (P3.out w2 b2 h6n)
 obtain ⟨S,hS⟩:∃ S,S=itoaB t:=⟨_,rfl⟩
 obtain ⟨S',hS'⟩:∃ S',S'=itoaB 60:=⟨_,rfl⟩
 have PI:=hide (fun (W:World) (hb:Below w.heap.size w W)=>titoa_any t (by omega) (by omega) W (HT.out.below hb))
 have PI2:=hide (fun (W:World) (hb:Below w.heap.size w W)=>titoa_any 60 (by omega) (by omega) W (HT.out.below hb))
 rw [← hS] at PI
 rw [← hS'] at PI2
 obtain ⟨Q1,hQ1⟩:∃ Q1,Q1=ByteArray.mk #[99,111,117,110,116,40,123,125,91]++S:=⟨_,rfl⟩
 obtain ⟨Q,hQ⟩:∃ Q,Q=Q1++ByteArray.mk #[93,41]:=⟨_,rfl⟩
 obtain ⟨R1,hR1⟩:∃ R1,R1=ByteArray.mk #[99,111,117,110,116,40,123,125,91]++S':=⟨_,rfl⟩
 obtain ⟨R,hRR⟩:∃ R,R=R1++ByteArray.mk #[93,41]:=⟨_,rfl⟩
 have hQp:prs Q.data.toList=.ok (eWin (lit [99,111,117,110,116]) t):=by
  rw [hQ,hQ1,hS];exact count_text (T:=0) (by omega) (by omega) (by omega) (by omega)
 have hRp:prs R.data.toList=.ok (eWin (lit [99,111,117,110,116]) 60):=by
  rw [hRR,hR1,hS'];exact count_text (T:=0) (by omega) (by omega) (by omega) (by omega)
 have hQs:Q.size≤300:=by rw [hQ,hQ1,hS];exact count_size (by omega) (by omega)
 have hRs:R.size≤300:=by rw [hRR,hR1,hS'];exact count_size (by omega) (by omega)
 have hQ2:Q1.size+2=Q.size:=by rw [hQ,ByteArray.size_append];rfl
 have hQ3:9+S.size=Q1.size:=by rw [hQ1,ByteArray.size_append];rfl
 have hR2:R1.size+2=R.size:=by rw [hRR,ByteArray.size_append];rfl
 have hR3:9+S'.size=R1.size:=by rw [hR1,ByteArray.size_append];rfl
 have A1:=sadd (P:=Tryz.prog) hQ1 (by show 9+S.size≤_;omega)
 have A2:=sadd (P:=Tryz.prog) hQ (by show Q1.size+2≤_;omega)
 have A3:=sadd (P:=Tryz.prog) hR1 (by show 9+S'.size≤_;omega)
 have A4:=sadd (P:=Tryz.prog) hRR (by show R1.size+2≤_;omega)
 have HPu:=hide (gone_pure HR.out H6.out hln t0 t1 t2 hQp hRp)
 have HQs:Hid (Q.size≤9223372036854775807):=by show _≤_;omega
 have HRs:Hid (R.size≤9223372036854775807):=by show _≤_;omega
 have npos:0<n:=by omega
 clear P3 ha hb8 hS hS' hQ hQp hQs hQ1 hQ2 hQ3 hRR hRp hRs hR1 hR2 hR3 ht hln hn0
 go_wp2_with fail
 refine P3'.out.mono ?_
 rintro e w3 ⟨go,d3,ds,rfl,own3,hds,tls3,b3⟩
 have bel3:=below_step b3 b2
 have HDs:=hide hds
 clear P3' hds
 go_wp2_with fail
 refine (troll_any 6000 w3).mono ?_
 rintro e w4 ⟨rfl,b4⟩
 have own:=own_below own3 b4
 have dls:=(Dls.of tls3).below b4
 have bel:=below_step b4 b3
 clear own3 tls3 bel3 b3 b4
 obtain ⟨U,hU⟩:∃ U,U=w4.alloc (.cells #[.int .i64 2,.int .i64 0,.int .i64 6000,.slice none 0 0,.int .i64 0,.int .i64 0,.string ⟨#[]⟩] 36):=⟨_,rfl⟩
 have bU:Below w4.heap.size w4 U:=by rw [hU];exact (Below.refl _ _).alloc (Nat.le_refl _) _
 have ownU:=own_below own bU
 have dlsU:=dls.below bU
 have belU:=below_step bU bel
 have HNB:Hid (∀ j u,[Value.int .i64 2,.int .i64 0,.int .i64 6000,.slice none 0 0,.int .i64 0,.int .i64 0,.string ⟨#[]⟩][j]?=some u→U.cell? ((⟨w4.heap.size,0,none⟩:Addr).add j)=some u):=by
  refine seg_news ?_
  rw [hU]
  have:=seg_new w4 #[.int .i64 2,.int .i64 0,.int .i64 6000,.slice none 0 0,.int .i64 0,.int .i64 0,.string ⟨#[]⟩] 36
  simpa using this
 have H1:Hid (∀ u∈[Value.int .i64 2,.int .i64 0,.int .i64 6000,.slice none 0 0,.int .i64 0,.int .i64 0,.string ⟨#[]⟩],u.oneCell'=true):=by
  intro u hu
  simp only [List.mem_cons,List.not_mem_nil,or_false] at hu
  rcases hu with e | e | e | e | e | e | e <;> (subst e;rfl)
 have hs2:U.heap.size=w4.heap.size+1:=by rw [hU];simp
 have hws:w2.heap.size≤U.heap.size:=belU.size
 have HU:=hide hU
 clear own dls bel hU bU
 go_wp2_with (rw [← HU.out];at_builtin;refine wpList_append_lies _ rfl _ _ 22 rfl w2.heap.size 36 i0 (.agg #[.int .i64 0,.int .i64 0,.int .i64 0,.slice none 0 0,.int .i64 0,.int .i64 0,.string ⟨#[]⟩]) 7 80 Tryz.underlying22 hi hz0 hz1 hz2 rfl (by decide) _ _ _ rfl ownU ⟨w4.heap.size,0,none⟩ 1 1 [Value.int .i64 2,.int .i64 0,.int .i64 6000,.slice none 0 0,.int .i64 0,.int .i64 0,.string ⟨#[]⟩] rfl rfl HNB.out H1.out (by decide) (by unfold maxLen;omega) (by omega) hws (w4.heap.size+1) hs2 ?_)
 intro g5 cp5 wz5 ownZ grZ hatZ hltZ
 have own:wz5.ownsRow w2.heap.size 36 7 (.slice (some ⟨g5,0,none⟩) (n+1) cp5) (n+1) (dcells (ds++[⟨dRoll 6000,none,0⟩])):=by
  rw [dcells_append]
  exact ownZ
 have dls:Dls wz5 (ds++[⟨dRoll 6000,none,0⟩]):=(dlsU.row ownU grZ (by decide)).push (.inr ⟨_,rfl,rfl,by show (ByteArray.mk #[]).size≤_;decide⟩)
 have bel:Below w2.heap.size w2 wz5:=belU.grown grZ hws (fun j hj=>(own_base ownU j hj).1)
 clear ownU dlsU belU ownZ grZ hatZ hltZ HNB H1 hs2 hws HU
 obtain ⟨ms,hms⟩:∃ ms,ms=ds++[⟨dRoll 6000,none,0⟩]:=⟨_,rfl⟩
 rw [← hms] at own dls
 have HM:Hid (dns ms=toldD l++[dRoll 6000]):=by show _=_;rw [hms,dns_append,HDs.out];rfl
 clear hms HDs
 obtain ⟨W6,hW6⟩:∃ W6,W6=w2:=⟨_,rfl⟩
 rw [← hW6] at own bel
 have b26:Below w.heap.size w W6:=by rw [hW6];exact b2
 clear hW6 b2
 go_wp2
 go_loopw [6,35] (fun v i wr=>∃ (k d g:Nat),k≤3∧i=.int .i64 k∧v=.slice (some ⟨g,0,none⟩) (n+1+k) d∧wr.ownsRow W6.heap.size 36 7 (.slice (some ⟨g,0,none⟩) (n+1+k) d) (n+1+k) (dcells (ms++forgs t k))∧Dls wr (ms++forgs t k)∧Below W6.heap.size W6 wr) (fun _ i _=>3-(intOf i).toNat)
 case atStart=>exact ⟨0,_,_,by omega,rfl,rfl,by simpa [forgs] using own,by simpa [forgs] using dls,bel⟩
 case round =>
  clear own dls bel
  obtain ⟨k,d,g,hk,rfl,rfl,own,dls,bel⟩:=hrel
  by_cases hlt:k<3
  ·have hki:(k:Int)<3:=by omega
   have hkn:¬ (3:Int)≤(k:Int):=by omega
   obtain ⟨U,hU⟩:∃ U,U=wr.alloc (.cells #[.int .i64 3,.int .i64 (k:Int),.int .i64 t,.slice none 0 0,.int .i64 0,.int .i64 0,.string ⟨#[]⟩] 36):=⟨_,rfl⟩
   have bU:Below wr.heap.size wr U:=by rw [hU];exact (Below.refl _ _).alloc (Nat.le_refl _) _
   have ownU:=own_below own bU
   have dlsU:=dls.below bU
   have belU:=below_step bU bel
   have HNB:Hid (∀ j u,[Value.int .i64 3,.int .i64 (k:Int),.int .i64 t,.slice none 0 0,.int .i64 0,.int .i64 0,.string ⟨#[]⟩][j]?=some u→U.cell? ((⟨wr.heap.size,0,none⟩:Addr).add j)=some u):=by
    refine seg_news ?_
    rw [hU]
    have:=seg_new wr #[.int .i64 3,.int .i64 (k:Int),.int .i64 t,.slice none 0 0,.int .i64 0,.int .i64 0,.string ⟨#[]⟩] 36
    simpa using this
   have H1:Hid (∀ u∈[Value.int .i64 3,.int .i64 (k:Int),.int .i64 t,.slice none 0 0,.int .i64 0,.int .i64 0,.string ⟨#[]⟩],u.oneCell'=true):=by
    intro u hu
    simp only [List.mem_cons,List.not_mem_nil,or_false] at hu
    rcases hu with e | e | e | e | e | e | e <;> (subst e;rfl)
   have hs2:U.heap.size=wr.heap.size+1:=by rw [hU];simp
   have hws:W6.heap.size≤U.heap.size:=belU.size
   have HU:=hide hU
   clear own dls bel hU bU
   go_wp2_with (rw [← HU.out];at_builtin;refine wpList_append_lies _ rfl _ _ 22 rfl W6.heap.size 36 i0 (.agg #[.int .i64 0,.int .i64 0,.int .i64 0,.slice none 0 0,.int .i64 0,.int .i64 0,.string ⟨#[]⟩]) 7 80 Tryz.underlying22 hi hz0 hz1 hz2 rfl (by decide) _ _ _ rfl ownU ⟨wr.heap.size,0,none⟩ 1 1 [Value.int .i64 3,.int .i64 (k:Int),.int .i64 t,.slice none 0 0,.int .i64 0,.int .i64 0,.string ⟨#[]⟩] rfl rfl HNB.out H1.out (by decide) (by unfold maxLen;omega) (by omega) hws (wr.heap.size+1) hs2 ?_)
   intro g8 cp8 wz8 ownZ grZ hatZ hltZ
   have own:wz8.ownsRow W6.heap.size 36 7 (.slice (some ⟨g8,0,none⟩) (n+1+k+1) cp8) (n+1+k+1) (dcells ((ms++forgs t k)++[⟨dForg k t,none,0⟩])):=by
    rw [dcells_append]
    exact ownZ
   have dls:Dls wz8 ((ms++forgs t k)++[⟨dForg k t,none,0⟩]):=(dlsU.row ownU grZ (by decide)).push (.inr ⟨_,rfl,rfl,by show (ByteArray.mk #[]).size≤_;decide⟩)
   have bel:Below W6.heap.size W6 wz8:=belU.grown grZ hws (fun j hj=>(own_base ownU j hj).1)
   clear ownU dlsU belU ownZ grZ hatZ hltZ HNB H1 hs2 hws HU
   have own':wz8.ownsRow W6.heap.size 36 7 (.slice (some ⟨g8,0,none⟩) (n+1+(k+1)) cp8) (n+1+(k+1)) (dcells (ms++forgs t (k+1))):=by
    rw [show ms++forgs t (k+1)=ms++forgs t k++[⟨dForg k t,none,0⟩] from by simp [forgs]]
    exact own
   have dls':Dls wz8 (ms++forgs t (k+1)):=by
    rw [show ms++forgs t (k+1)=ms++forgs t k++[⟨dForg k t,none,0⟩] from by simp [forgs]]
    exact dls
   clear own dls
   go_wp2
   go_roundw
   case rel=>exact ⟨k+1,_,_,by omega,by go_num,rfl,own',dls',bel⟩
   case measure=>simp [intOf];omega
  ·have he:k=3:=by omega
   subst he
   obtain ⟨xs,hxs⟩:∃ xs,xs=ms++forgs t 3:=⟨_,rfl⟩
   rw [← hxs] at own dls
   have HX:Hid (dns xs=toldD l++[dRoll 6000]++[dForg 0 t]++[dForg 1 t]++[dForg 2 t]):=by
    show _=_
    rw [hxs,dns_append,HM.out]
    simp [forgs,dns]
   have hxl:xs.length=n+1+3:=by have:=own.1;rw [dcells_length] at this;omega
   have ownM:=own
   have dlsM:=dls
   have bw:=below_step bel b26
   obtain ⟨M,hM⟩:∃ M,M=n+1+3:=⟨_,rfl⟩
   rw [← hM] at ownM hxl ⊢
   have hM1:0<M:=by omega
   have hM2:M≤64:=by omega
   have HXl:=hide hxl
   clear own dls bel hxs HM hxl hM
   obtain ⟨U,hU⟩:∃ U,U=wr.alloc (.cells #[] 36):=⟨_,rfl⟩
   have bU:Below wr.heap.size wr U:=by rw [hU];exact (Below.refl _ _).alloc (Nat.le_refl _) _
   have ownE:U.ownsRow wr.heap.size 36 7 (.slice (some ⟨wr.heap.size,0,none⟩) 0 0) 0 []:=by rw [hU];exact World.ownsRow_made wr #[] 0 (Nat.le_refl _) (by decide) rfl
   have HNB:=hide (seg_news (own_seg (own_below ownM bU)))
   have hml:(dcells xs).length=M*7:=ownM.1
   have HD1:=hide (dcells_one xs)
   have hs2:U.heap.size=wr.heap.size+1:=by rw [hU];simp
   have hws:wr.heap.size≤U.heap.size:=bU.size
   have HU:=hide hU
   have HBU:=hide bU
   clear hU bU
   go_wp2_with (rw [← HU.out];at_builtin;refine wpList_append_lies _ rfl _ _ 22 rfl wr.heap.size 36 i0 (.agg #[.int .i64 0,.int .i64 0,.int .i64 0,.slice none 0 0,.int .i64 0,.int .i64 0,.string ⟨#[]⟩]) 7 80 Tryz.underlying22 hi hz0 hz1 hz2 rfl (by decide) _ _ _ rfl ownE ⟨g,0,none⟩ (M) d (dcells xs) rfl hml HNB.out HD1.out (by omega) (by unfold maxLen;omega) (by omega) hws (wr.heap.size+1) hs2 ?_)
   intro ga1 cpa1 wza1 ownZ grZ hatZ hltZ
   have own:wza1.ownsRow wr.heap.size 36 7 (.slice (some ⟨ga1,0,none⟩) (M) cpa1) (M) (dcells xs):=ownZ
   have bel:Below wr.heap.size wr wza1:=HBU.out.grown grZ hws (fun j hj=>(own_base ownE j hj).1)
   have dls:=dlsM.below bel
   clear ownE ownZ grZ hatZ hltZ HNB HD1 hs2 hws HU HBU hml
   have PX:=hide (PI.out wza1 (below_step bel bw))
   go_wp2_with fail
   refine PX.out.mono ?_
   rintro e wi1 ⟨rfl,bi⟩
   have own:=own_below own bi
   have dls:=dls.below bi
   have bel:=below_step bi bel
   clear PX bi
   go_wp2_with fail
   refine (task_any Q t wi1).mono ?_
   rintro e wk1 ⟨rfl,bk⟩
   have own:=own_below own bk
   have dls:=dls.below bk
   have bel:=below_step bk bel
   clear bk
   obtain ⟨U,hU⟩:∃ U,U=wk1.alloc (.cells #[.int .i64 4,.int .i64 0,.int .i64 t,.slice none 0 0,.int .i64 0,.int .i64 0,.string Q] 36):=⟨_,rfl⟩
   have bU:Below wk1.heap.size wk1 U:=by rw [hU];exact (Below.refl _ _).alloc (Nat.le_refl _) _
   have ownU:=own_below own bU
   have dlsU:=dls.below bU
   have belU:=below_step bU bel
   have HNB:Hid (∀ j u,[Value.int .i64 4,.int .i64 0,.int .i64 t,.slice none 0 0,.int .i64 0,.int .i64 0,.string Q][j]?=some u→U.cell? ((⟨wk1.heap.size,0,none⟩:Addr).add j)=some u):=by
    refine seg_news ?_
    rw [hU]
    have:=seg_new wk1 #[.int .i64 4,.int .i64 0,.int .i64 t,.slice none 0 0,.int .i64 0,.int .i64 0,.string Q] 36
    simpa using this
   have H1:Hid (∀ u∈[Value.int .i64 4,.int .i64 0,.int .i64 t,.slice none 0 0,.int .i64 0,.int .i64 0,.string Q],u.oneCell'=true):=by
    intro u hu
    simp only [List.mem_cons,List.not_mem_nil,or_false] at hu
    rcases hu with e | e | e | e | e | e | e <;> (subst e;rfl)
   have hs2:U.heap.size=wk1.heap.size+1:=by rw [hU];simp
   have hws:wr.heap.size≤U.heap.size:=belU.size
   have HU:=hide hU
   clear own dls bel hU bU
   go_wp2_with (rw [← HU.out];at_builtin;refine wpList_append_lies _ rfl _ _ 22 rfl wr.heap.size 36 i0 (.agg #[.int .i64 0,.int .i64 0,.int .i64 0,.slice none 0 0,.int .i64 0,.int .i64 0,.string ⟨#[]⟩]) 7 80 Tryz.underlying22 hi hz0 hz1 hz2 rfl (by decide) _ _ _ rfl ownU ⟨wk1.heap.size,0,none⟩ 1 1 [Value.int .i64 4,.int .i64 0,.int .i64 t,.slice none 0 0,.int .i64 0,.int .i64 0,.string Q] rfl rfl HNB.out H1.out (by decide) (by unfold maxLen;omega) (by omega) hws (wk1.heap.size+1) hs2 ?_)
   intro gb1 cpb1 wzb1 ownZ grZ hatZ hltZ
   have own:wzb1.ownsRow wr.heap.size 36 7 (.slice (some ⟨gb1,0,none⟩) (M+1) cpb1) (M+1) (dcells (xs++[⟨dAsk Q t,none,0⟩])):=by
    rw [dcells_append]
    exact ownZ
   have dls:Dls wzb1 (xs++[⟨dAsk Q t,none,0⟩]):=(dlsU.row ownU grZ (by decide)).push (.inr ⟨_,rfl,rfl,HQs.out⟩)
   have bel:Below wr.heap.size wr wzb1:=belU.grown grZ hws (fun j hj=>(own_base ownU j hj).1)
   clear ownU dlsU belU ownZ grZ hatZ hltZ HNB H1 hs2 hws HU
   have PL:=hide (last_any (xs++[⟨dAsk Q t,none,0⟩]) (some ⟨gb1,0,none⟩) (M+1) cpb1 wzb1 (own_seg' own) dls.din (by simp [HXl.out]) (HV.out.below (below_step bel bw)))
   have HDs2:Hid (dns (xs++[⟨dAsk Q t,none,0⟩])=toldD l++[dRoll 6000]++[dForg 0 t]++[dForg 1 t]++[dForg 2 t]++[dAsk Q t]):=by show _=_;rw [dns_append,HX.out];rfl
   rw [HDs2.out] at PL
   clear own dls HDs2
   go_wp2_with fail
   refine PL.out.mono ?_
   rintro e wl1 ⟨y1,rfl,hy1,-,bl⟩
   have bel:=below_step bl bel
   have HY1:=hide hy1
   clear PL bl hy1
   obtain ⟨E1,hE1⟩:∃ E,E=y1.a.err:=⟨_,rfl⟩
   have e1:E1=10:=by rw [hE1,HY1.out];exact HPu.out.1
   rw [← hE1,e1]
   obtain ⟨p1,hp1⟩:∃ p,p=y1.a.pos:=⟨_,rfl⟩
   obtain ⟨l1,hl1⟩:∃ p,p=y1.cts.length:=⟨_,rfl⟩
   obtain ⟨c1,hc1⟩:∃ p,p=y1.a.cost:=⟨_,rfl⟩
   rw [← hp1,← hl1,← hc1]
   obtain ⟨X,hX⟩:∃ X,X=wl1.alloc (.cells #[.int .i64 10,.int .i64 p1,.slice y1.co l1 y1.cap,.int .i64 c1] 48):=⟨_,rfl⟩
   have bX:Below wl1.heap.size wl1 X:=by rw [hX];exact (Below.refl _ _).alloc (Nat.le_refl _) _
   have X1:X.heap[wl1.heap.size]?=some (.cells #[.int .i64 10,.int .i64 p1,.slice y1.co l1 y1.cap,.int .i64 c1] 48 (0,0)):=by rw [hX];exact heap_alloc_new wl1 _
   have belX:=below_step bX bel
   have ownM:=own_below ownM belX
   have dlsM:=dlsM.below belX
   have bwX:=below_step belX bw
   obtain ⟨Y,hY⟩:∃ Y,Y=wl1.heap.size:=⟨_,rfl⟩
   rw [← hY] at X1
   have HX1:=hide hX
   have HYY:=hide hY
   clear hX bX bel belX hY hE1 e1 hp1 hl1 hc1 HY1 bw
   go_upto_region 13 with fail
   rw [← HX1.out,← HYY.out]
   obtain ⟨U,hU⟩:∃ U,U=X.alloc (.cells #[] 36):=⟨_,rfl⟩
   have bU:Below X.heap.size X U:=by rw [hU];exact (Below.refl _ _).alloc (Nat.le_refl _) _
   have ownE:U.ownsRow X.heap.size 36 7 (.slice (some ⟨X.heap.size,0,none⟩) 0 0) 0 []:=by rw [hU];exact World.ownsRow_made X #[] 0 (Nat.le_refl _) (by decide) rfl
   have HNB:=hide (seg_news (own_seg (own_below ownM bU)))
   have hml:(dcells xs).length=M*7:=ownM.1
   have HD1:=hide (dcells_one xs)
   have hs2:U.heap.size=X.heap.size+1:=by rw [hU];simp
   have hws:X.heap.size≤U.heap.size:=bU.size
   have HU:=hide hU
   have HBU:=hide bU
   clear hU bU
   go_wp2_with (rw [← HU.out];at_builtin;refine wpList_append_lies _ rfl _ _ 22 rfl X.heap.size 36 i0 (.agg #[.int .i64 0,.int .i64 0,.int .i64 0,.slice none 0 0,.int .i64 0,.int .i64 0,.string ⟨#[]⟩]) 7 80 Tryz.underlying22 hi hz0 hz1 hz2 rfl (by decide) _ _ _ rfl ownE ⟨g,0,none⟩ (M) d (dcells xs) rfl hml HNB.out HD1.out (by omega) (by unfold maxLen;omega) (by omega) hws (X.heap.size+1) hs2 ?_)
   intro ga2 cpa2 wza2 ownZ grZ hatZ hltZ
   have own:wza2.ownsRow X.heap.size 36 7 (.slice (some ⟨ga2,0,none⟩) (M) cpa2) (M) (dcells xs):=ownZ
   have bel:Below X.heap.size X wza2:=HBU.out.grown grZ hws (fun j hj=>(own_base ownE j hj).1)
   have dls:=dlsM.below bel
   clear ownE ownZ grZ hatZ hltZ HNB HD1 hs2 hws HU HBU hml
   have PX:=hide (PI2.out wza2 (below_step bel bwX))
   go_wp2_with fail
   refine PX.out.mono ?_
   rintro e wi2 ⟨rfl,bi⟩
   have own:=own_below own bi
   have dls:=dls.below bi
   have bel:=below_step bi bel
   clear PX bi
   go_wp2_with fail
   refine (task_any R (t+60) wi2).mono ?_
   rintro e wk2 ⟨rfl,bk⟩
   have own:=own_below own bk
   have dls:=dls.below bk
   have bel:=below_step bk bel
   clear bk
   obtain ⟨U,hU⟩:∃ U,U=wk2.alloc (.cells #[.int .i64 4,.int .i64 0,.int .i64 (t+60),.slice none 0 0,.int .i64 0,.int .i64 0,.string R] 36):=⟨_,rfl⟩
   have bU:Below wk2.heap.size wk2 U:=by rw [hU];exact (Below.refl _ _).alloc (Nat.le_refl _) _
   have ownU:=own_below own bU
   have dlsU:=dls.below bU
   have belU:=below_step bU bel
   have HNB:Hid (∀ j u,[Value.int .i64 4,.int .i64 0,.int .i64 (t+60),.slice none 0 0,.int .i64 0,.int .i64 0,.string R][j]?=some u→U.cell? ((⟨wk2.heap.size,0,none⟩:Addr).add j)=some u):=by
    refine seg_news ?_
    rw [hU]
    have:=seg_new wk2 #[.int .i64 4,.int .i64 0,.int .i64 (t+60),.slice none 0 0,.int .i64 0,.int .i64 0,.string R] 36
    simpa using this
   have H1:Hid (∀ u∈[Value.int .i64 4,.int .i64 0,.int .i64 (t+60),.slice none 0 0,.int .i64 0,.int .i64 0,.string R],u.oneCell'=true):=by
    intro u hu
    simp only [List.mem_cons,List.not_mem_nil,or_false] at hu
    rcases hu with e | e | e | e | e | e | e <;> (subst e;rfl)
   have hs2:U.heap.size=wk2.heap.size+1:=by rw [hU];simp
   have hws:X.heap.size≤U.heap.size:=belU.size
   have HU:=hide hU
   clear own dls bel hU bU
   go_wp2_with (rw [← HU.out];at_builtin;refine wpList_append_lies _ rfl _ _ 22 rfl X.heap.size 36 i0 (.agg #[.int .i64 0,.int .i64 0,.int .i64 0,.slice none 0 0,.int .i64 0,.int .i64 0,.string ⟨#[]⟩]) 7 80 Tryz.underlying22 hi hz0 hz1 hz2 rfl (by decide) _ _ _ rfl ownU ⟨wk2.heap.size,0,none⟩ 1 1 [Value.int .i64 4,.int .i64 0,.int .i64 (t+60),.slice none 0 0,.int .i64 0,.int .i64 0,.string R] rfl rfl HNB.out H1.out (by decide) (by unfold maxLen;omega) (by omega) hws (wk2.heap.size+1) hs2 ?_)
   intro gb2 cpb2 wzb2 ownZ grZ hatZ hltZ
   have own:wzb2.ownsRow X.heap.size 36 7 (.slice (some ⟨gb2,0,none⟩) (M+1) cpb2) (M+1) (dcells (xs++[⟨dAsk R (t+60),none,0⟩])):=by
    rw [dcells_append]
    exact ownZ
   have dls:Dls wzb2 (xs++[⟨dAsk R (t+60),none,0⟩]):=(dlsU.row ownU grZ (by decide)).push (.inr ⟨_,rfl,rfl,HRs.out⟩)
   have bel:Below X.heap.size X wzb2:=belU.grown grZ hws (fun j hj=>(own_base ownU j hj).1)
   clear ownU dlsU belU ownZ grZ hatZ hltZ HNB H1 hs2 hws HU
   have PL:=hide (last_any (xs++[⟨dAsk R (t+60),none,0⟩]) (some ⟨gb2,0,none⟩) (M+1) cpb2 wzb2 (own_seg' own) dls.din (by simp [HXl.out]) (HV.out.below (below_step bel bwX)))
   have HDs2:Hid (dns (xs++[⟨dAsk R (t+60),none,0⟩])=toldD l++[dRoll 6000]++[dForg 0 t]++[dForg 1 t]++[dForg 2 t]++[dAsk R (t+60)]):=by show _=_;rw [dns_append,HX.out];rfl
   rw [HDs2.out] at PL
   clear own dls HDs2
   go_wp2_with fail
   refine PL.out.mono ?_
   rintro e wl2 ⟨y2,rfl,hy2,-,bl⟩
   have bel:=below_step bl bel
   have HY2:=hide hy2
   clear PL bl hy2
   obtain ⟨E2,hE2⟩:∃ E,E=y2.a.err:=⟨_,rfl⟩
   have e2:E2=0:=by rw [hE2,HY2.out];exact HPu.out.2
   rw [← hE2,e2]
   obtain ⟨y0,-⟩:=four_cells (below_block bel X1)
   have y0':∀ o,(wl2.alloc o).cell? ⟨Y,0,none⟩=some (.int .i64 10):=fun o=>(((Below.refl _ wl2).alloc (Nat.le_refl _) o).cell (World.block_lt_of_cell? wl2 _ y0)).trans y0
   have belw:=below_step bel bwX
   have HB:Hid (∀ o,Below w.heap.size w (wl2.alloc o)):=fun o=>belw.alloc belw.size _
   have hYl:Y<wl2.heap.size:=World.block_lt_of_cell? wl2 _ y0
   clear hE2 e2 HY2 bel belw X1
   go_wp2
   go_ret
   exact ⟨rfl,HB.out _⟩
end Go.Proofs.YtoldmigappbjcaaGreatDoor
