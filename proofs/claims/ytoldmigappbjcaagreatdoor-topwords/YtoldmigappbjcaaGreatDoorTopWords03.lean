import Derived.Below
import Derived.ChangeOld
import Derived.Deep.Slices
import Derived.OpenShut
import Derived.ProofKit
import Derived.SizedLaws
import Derived.Test.YtoldmigappbjcaaGreatDoorK01
import Derived.Test.YtoldmigappbjcaaGreatDoorK03
import Derived.Test.YtoldmigappbjcaaGreatDoorK05
import Derived.Test.YtoldmigappbjcaaGreatDoorK07
import Derived.Test.YtoldmigappbjcaaGreatDoorK14
import Derived.Test.YtoldmigappbjcaaGreatDoorK25
import Derived.Test.YtoldmigappbjcaaGreatDoorK26
import Derived.Test.YtoldmigappbjcaaGreatDoorK31
import Derived.Test.YtoldmigappbjcaaGreatDoorRows
import Derived.Test.YtoldmigappbjcaaGreatDoorTopWords01
import Derived.Test.YtoldmigappbjcaaGreatDoorTopWords02
namespace Go.GrainU
open Go.RowKit
theorem seg_of {α:Type} {W:World} {b off len c:Nat} (hc:0<c) (f:Nat→α) (cell:α→List Value) (hcl:∀ x,(cell x).length=c)
  (h:∀ i,i<len→∀ j,j<c→W.cell? ⟨b,off+(i*c+j),none⟩=(cell (f i))[j]?):Seg W (some ⟨b,off,none⟩) ((List.range len).flatMap fun i=>cell (f i)):=by
 refine .inr ⟨b,off,rfl,fun j hj=>?_⟩
 have hl:∀ n,((List.range n).flatMap fun i=>cell (f i)).length=n*c:=by
  intro n
  induction n with
  | zero=>simp
  | succ n ih=>rw [List.range_succ,List.flatMap_append,List.length_append,ih];simp [hcl,Nat.add_mul]
 rw [hl] at hj
 have hat:∀ n i,i<n→∀ q,q<c→((List.range n).flatMap fun i=>cell (f i))[i*c+q]?=(cell (f i))[q]?:=by
  intro n
  induction n with
  | zero=>intro i hi;omega
  | succ n ih =>
   intro i hi q hq
   rw [List.range_succ,List.flatMap_append]
   have hle:(i+1)*c≤(n+1)*c:=Nat.mul_le_mul_right c (by omega)
   rw [Nat.add_mul] at hle
   by_cases e:i<n
   ·have h2:(i+1)*c≤n*c:=Nat.mul_le_mul_right c (by omega)
    rw [Nat.add_mul] at h2
    rw [List.getElem?_append_left (by rw [hl];omega)]
    exact ih i e q hq
   ·have e':i=n:=by omega
    subst e'
    rw [List.getElem?_append_right (by rw [hl];omega),hl,show i*c+q-i*c=q from by omega]
    simp
 have hq:j%c<c:=Nat.mod_lt _ hc
 have hd:j / c<len:=Nat.div_lt_of_lt_mul (by rw [Nat.mul_comm];exact hj)
 have hm:j / c*c+j%c=j:=by rw [Nat.mul_comm];exact Nat.div_add_mod j c
 have h1:=hat len (j / c) hd (j%c) hq
 have h2:=h (j / c) hd (j%c) hq
 rw [hm] at h1 h2
 rw [h1,h2]
open Go.RowKit
theorem weights_mem_all {H:Type} {P:Program} {e:TypeId} {l:List (DataW H)} {d:DataW H} (h:d∈l):∀ n∈d.weights P e,n∈DataW.weightsAll P e l:=by
 induction l with
 | nil=>cases h
 | cons a r ih =>
  intro n hn
  simp only [DataW.weightsAll,List.mem_append]
  rcases List.mem_cons.1 h with e | e
  ·rw [e] at hn;exact .inl hn
  ·exact .inr (ih e n hn)
end Go.GrainU
namespace Go.Proofs.YtoldmigappbjcaaGreatDoor
open Go.ChangeShapes Go.WideShapes Go.ChangeAt Go.RowKit Go.GrainU
theorem Tryz.laidOut:laidOutB Tryz.prog=true:=by kernel_rfl
theorem Tryz.cellsInt:Tryz.prog.cellsOf 3=1:=by kernel_rfl
theorem field_i64 {H:Type} {enc:TypeId×Value→H} {W:World} {n:Nat} {c:Value} {y:DataW H×List MemPlace} (h:DataW.trod enc Tryz.prog W 0 (fun _=>true) true n 3 [c]=some y):∃ z,c=.int .i64 z:=by
 obtain ⟨z,hz,_,_⟩:=DataW.trod_int Tryz.underlying3 h
 exact ⟨z,by simpa using hz⟩
end Go.Proofs.YtoldmigappbjcaaGreatDoor
namespace Go.GrainU
open Go.RowKit
theorem scells_flat (l:List (Int×Int)):scells l=l.flatMap fun x=>[.int .i64 x.1,.int .i64 x.2]:=by
 induction l with
 | nil=>rfl
 | cons x r ih=>simp [scells,ih]
theorem list2 {α:Type} {l:List α} (h:l.length=2):∃ a b,l=[a,b]:=by
 match l,h with
 | [a,b],_=>exact ⟨a,b,rfl⟩
end Go.GrainU
namespace Go.Proofs.YtoldmigappbjcaaGreatDoor
open Go.ChangeShapes Go.WideShapes Go.ChangeAt Go.RowKit Go.GrainU
theorem Tryz.cellsSample2:Tryz.prog.cellsOf 34=2:=by kernel_rfl
theorem Tryz.bytesSample:Tryz.prog.bytesOf 34=16:=by kernel_rfl
theorem open_list2 {H:Type} {enc:TypeId×Value→H} {W:World} {α:Type} [Inhabited α] {fuel:Nat} {t e:TypeId} {cs:List Value} {x:DataW H×List MemPlace} (cell:α→List Value) (Q:α→Prop) (c:Nat) (hc:0<c) (hcl:∀ a,(cell a).length=c)
  (hcells:Tryz.prog.cellsOf e=c) (_hb:1≤Tryz.prog.bytesOf e) (ht:Tryz.prog.underlying t=some (.slice e)) (h:DataW.trod enc Tryz.prog W 0 (fun _=>true) true fuel t cs=some x) (hw:∀ n∈x.1.weights Tryz.prog t,n≤reachBytes)
  (each:∀ n cs' y,n<fuel→DataW.trod enc Tryz.prog W 0 (fun _=>true) true n e cs'=some y→(∀ k∈y.1.weights Tryz.prog e,k≤reachBytes)→∃ a,cs'=cell a∧Q a) :
  ∃ (l:List α) (ao:Option Addr) (cap:Nat),cs=[.slice ao l.length cap]∧Seg W ao (l.flatMap cell)∧(∀ a∈l,Q a)∧l.length≤cap∧l.length*Tryz.prog.bytesOf e≤reachBytes∧(ao=none→l.length=0∧cap=0)∧cap≤maxLen:=by
 rcases DataW.trod_slice ht h with ⟨hcs,_⟩ | ⟨a,len,cap,elems,rest,n,hn,hcs,hx,_,hl,hm,hlen,hel,hsp,hns⟩
 ·exact ⟨[],none,0,hcs,.inl rfl,fun a ha=>by (cases ha),Nat.le_refl _,by simp,fun _=>⟨rfl,rfl⟩,Nat.zero_le _⟩
 ·have hwt:∀ k,k∈(elems.length+rest.length)*Tryz.prog.bytesOf e::(DataW.weightsAll Tryz.prog e (elems.map (·.1))++DataW.weightsAll Tryz.prog e (rest.map (·.1)))→k≤reachBytes:=by
   intro k hk
   refine hw k ?_
   rw [hx]
   simp only [DataW.weights,ht]
   simpa using hk
  have hlb:len*Tryz.prog.bytesOf e≤reachBytes:=by
   have h1:=hwt _ (List.mem_cons_self ..)
   have h2:len*Tryz.prog.bytesOf e≤(elems.length+rest.length)*Tryz.prog.bytesOf e:=Nat.mul_le_mul_right _ (by omega)
   omega
  have ex:∀ i,i<len→∃ y:α,(∀ j,j<c→W.cell? (a.add (i*c+j))=(cell y)[j]?)∧Q y:=by
   intro i hi
   have h1:=hel i hi
   have hi':i<elems.length:=by omega
   rw [List.getElem?_eq_getElem hi',Option.bind_eq_some_iff] at h1
   obtain ⟨cs',h2,h3⟩:=h1
   rw [hcells] at h2
   obtain ⟨_,hlen',hcc⟩:=World.cells?_some h2
   obtain ⟨y,rfl,hq⟩:=each n cs' _ (by omega) h3 (fun k hk=>hwt k (List.mem_cons_of_mem _ (List.mem_append_left _ (weights_mem_all (List.mem_map_of_mem (List.getElem_mem hi')) k hk))))
   refine ⟨y,fun j hj=>?_,hq⟩
   have:=hcc j hj
   rw [Go.Deep.add_add] at this
   exact this
  obtain ⟨f,hf⟩:=Go.Deep.choose_lt ex
  refine ⟨(List.range len).map f,some a,cap,by simpa using hcs,?_,fun y hy=>?_,by simpa using hl,by simpa using hlb,fun h=>(by cases h),hm⟩
  ·rcases Nat.eq_zero_or_pos len with h0 | h0
   ·subst h0;exact .inl rfl
   ·obtain ⟨b,off,spot⟩:=a
    have hspot:spot=none:=by
     have h1:=(hf 0 h0).1 0 hc
     have h2:0<(cell (f 0)).length:=by rw [hcl];exact hc
     rw [List.getElem?_eq_getElem h2] at h1
     simp only [Nat.zero_mul,Nat.add_zero] at h1
     simpa [Addr.add] using World.cell?_spot h1
    subst hspot
    rw [List.flatMap_map]
    refine seg_of hc f cell hcl (fun i hi j hj=>?_)
    have:=(hf i hi).1 j hj
    rw [Go.WideShapes.add_plain] at this
    exact this
  ·obtain ⟨i,hi,rfl⟩:=List.mem_map.1 hy
   exact (hf i (by simpa using hi)).2
theorem open_smp {H:Type} {enc:TypeId×Value→H} {W:World} {n:Nat} {cs:List Value} {x:DataW H×List MemPlace}
  (h:DataW.trod enc Tryz.prog W 0 (fun _=>true) true n 34 cs=some x):∃ k:Int×Int,cs=[.int .i64 k.1,.int .i64 k.2]:=by
 obtain ⟨xs,m,_,hx,hl,hlen,hf⟩:=DataW.trod_struct Tryz.underlying34 h
 rw [Tryz.cellsSample2] at hl
 have hlen':xs.length=2:=hlen
 obtain ⟨c0,c1,rfl⟩:=list2 hl
 obtain ⟨x0,x1,rfl⟩:=list2 hlen'
 have g0:DataW.trod enc Tryz.prog W 0 (fun _=>true) true m 3 ((List.drop 0 [c0,c1]).take (Tryz.prog.cellsOf 3))=some x0:=hf 0 _ rfl
 have g1:DataW.trod enc Tryz.prog W 0 (fun _=>true) true m 3 ((List.drop 1 [c0,c1]).take (Tryz.prog.cellsOf 3))=some x1:=hf 1 _ rfl
 rw [Tryz.cellsInt] at g0 g1
 simp only [List.drop_zero,List.drop_succ_cons,List.take_succ_cons,List.take_zero] at g0 g1
 obtain ⟨z0,rfl⟩:=field_i64 g0
 obtain ⟨z1,rfl⟩:=field_i64 g1
 exact ⟨⟨z0,z1⟩,rfl⟩
end Go.Proofs.YtoldmigappbjcaaGreatDoor
namespace Go.GrainU
open Go.RowKit
end Go.GrainU
namespace Go.Proofs.YtoldmigappbjcaaGreatDoor
open Go.ChangeShapes Go.WideShapes Go.ChangeAt Go.RowKit Go.GrainU
theorem open_smps {H:Type} {enc:TypeId×Value→H} {W:World} {fuel:Nat} {cs:List Value} {x:DataW H×List MemPlace}
  (h:DataW.trod enc Tryz.prog W 0 (fun _=>true) true fuel 56 cs=some x) (hw:∀ k∈x.1.weights Tryz.prog 56,k≤reachBytes) :
  ∃ (l:List (Int×Int)) (ao:Option Addr) (cap:Nat),cs=[.slice ao l.length cap]∧Seg W ao (scells l)∧l.length≤cap∧l.length*16≤reachBytes∧(ao=none→l.length=0∧cap=0)∧cap≤9223372036854775807:=by
 obtain ⟨l,ao,cap,e,sg,_,l1,b,n1,m1⟩:=open_list2 (α:=Int×Int) (fun x=>[.int .i64 x.1,.int .i64 x.2]) (fun _=>True) 2 (by decide) (fun _=>rfl) Tryz.cellsSample2 (by rw [Tryz.bytesSample];decide) Tryz.underlying56 h hw (fun n cs' y _ hy _=>by
  obtain ⟨k,hk⟩:=open_smp hy
  exact ⟨k,hk,trivial⟩)
 rw [← scells_flat] at sg
 rw [Tryz.bytesSample] at b
 exact ⟨l,ao,cap,e,sg,l1,b,n1,by unfold maxLen at m1;exact m1⟩
end Go.Proofs.YtoldmigappbjcaaGreatDoor
namespace Go.GrainU
open Go.RowKit
theorem tell_in {a b:List Ln} {s:Lb} {A:List (Int×Int)} {x:Int×Int} (hl:lpos (a++[(s,A)]++b) s=a.length):tellP (a++[(s,A)]++b) s x=a++[(s,A++[x])]++b:=by
 have hh:lhas (a++[(s,A)]++b) s=true:=by
  unfold lhas
  rw [hl]
  simp [lnn,List.getD,cmpS_self]
 unfold tellP
 rw [if_pos hh,hl]
 simp [lnn,List.getD]
theorem tell_new {a b:List Ln} {s:Lb} {x:Int×Int} (hl:lpos (a++b) s=a.length) (hn:b=[]∨cmpS (lser b 0) s≠0):tellP (a++b) s x=a++[(s,[x])]++b:=by
 have hh:¬ lhas (a++b) s=true:=by
  unfold lhas
  rw [hl]
  rcases hn with h | h
  ·subst h;simp
  ·intro hc
   simp only [Bool.and_eq_true,decide_eq_true_eq] at hc
   apply h
   have:=hc.2
   rw [show (lnn (a++b) a.length).1=lser b 0 from by simp [lnn,lser,List.getD,List.getElem?_append_right (Nat.le_refl a.length)]] at this
   exact this
 unfold tellP
 rw [if_neg hh,hl]
 simp
end Go.GrainU
namespace Go.Proofs.YtoldmigappbjcaaGreatDoor
open Go.RowKit Go.GrainU
end Go.Proofs.YtoldmigappbjcaaGreatDoor
namespace Go.GrainU
open Go.RowKit
theorem take_more {b:Bs} (hb:BInv b) (hw:Whole b) (hz:b.hz=0) {s:Lb} (hs:wrongS s=0) {A:List (Int×Int)} (hl:lnsB b.l=if A=[] then [] else [(s,A)]) {t v:Int} (hin:Grain.inR t v=true) (hlast:∀ x∈A,x.1<t) (h5:A.length<500) :
  (takeB b s t v).2=0∧lnsB (takeB b s t v).1.l=[(s,A++[(t,v)])]:=by
 have ht:0≤t:=by simp [Grain.inR] at hin;omega
 have herr:(takeB b s t v).2=0:=by
  unfold takeB
  rw [if_neg (by simp [hs]),if_neg (by rw [hin];decide),if_neg (by rw [hz];omega)]
  by_cases hA:A=[]
  ·rw [if_pos hA] at hl
   have hb0:b.l=[]:=by simpa [lnsB] using hl
   rw [if_neg (by rw [hb0];simp [bhas,bpos]),putN_err hb hs hin (by rw [hz];omega),hb0]
   simp
  ·rw [if_neg hA] at hl
   have h1:b.l.length=1:=by
    have:=congrArg List.length hl
    rw [lnsB_len] at this
    simpa using this
   have hh:bhas b.l s=true:=by rw [← lhas_lnsB,hl];simp [lhas,lpos,cmpS_self,lnn]
   have hp:bpos b.l s=0:=by rw [← lpos_lnsB,hl];simp [lpos,cmpS_self]
   have h0:0<b.l.length:=by omega
   have e:=lnn_lnsB h0
   rw [hl] at e
   have hA2:(kp b.l 0).A=A:=(Prod.mk.inj (show (s,A)=_ from e)).2.symm
   have k1:=hb.kee _ (kp_mem h0)
   have r1:=Grain.whole_ra k1 (hw _ (kp_mem h0))
   rw [if_pos hh,putB_err,hp,Grain.sapp_err k1 (by rw [r1,hA2];exact h5) hin,if_neg]
   unfold Grain.late
   rw [hb.ft _ (kp_mem h0),hz,r1,hA2]
   have hd:decide (t<0)=false:=by simp;omega
   rw [hd,Bool.false_or]
   cases hg:A.getLast? with
   | none=>simp
   | some y =>
    have:=hlast y (List.mem_of_getLast? hg)
    simp;omega
 refine ⟨herr,?_⟩
 rw [tell_take herr,hl]
 by_cases hA:A=[]
 ·rw [if_pos hA,hA]
  exact tell_new (a:=[]) (b:=[]) rfl (.inl rfl)
 ·rw [if_neg hA]
  refine tell_in (a:=[]) (b:=[]) ?_
  simp [lpos,cmpS_self]
end Go.GrainU
namespace Go.Proofs.YtoldmigappbjcaaGreatDoor
open Go.RowKit Go.GrainU
def aBy:ByteArray:=⟨#[97]⟩
def srsA:Lb:=[(hostB,aBy)]
theorem srsA_ok:wrongS srsA=0:=by kernel_rfl
def toldD (l:List (Int×Int)):List Dn:=l.map fun x=>dAdd aBy x.1 x.2
theorem lastA_snoc {l:List Dn} {d:Dn} (h:l.length+1≤120):lastA (l++[d])=(doB (playB b0 l).1 d).2:=by
 unfold lastA
 rw [if_neg (by simp;omega),playB_snoc]
 have:=playB_len l b0
 simp [List.getD,this]
structure OneB (b:Bs) (A:List (Int×Int)):Prop where
 i:BInv b
 w:Whole b
 hz:b.hz=0
 ln:lnsB b.l=if A=[] then [] else [(srsA,A)]
theorem told_one {l:List (Int×Int)} (hr:(Grain.wrong l).1=0):∀ k,k≤l.length→OneB (playB b0 (toldD (l.take k))).1 (l.take k):=by
 obtain ⟨h5,hin,hpw⟩:=(Grain.right_iff l).1 hr
 intro k
 induction k with
 | zero=>intro _;exact ⟨b0_inv,fun k hk=>by simp [toldD,playB,b0] at hk,rfl,rfl⟩
 | succ k ih =>
  intro hk
  have hkl:k<l.length:=by omega
  have ih':=ih (by omega)
  have e:l.take (k+1)=l.take k++[l[k]]:=by rw [List.take_add_one,List.getElem?_eq_getElem hkl];rfl
  have et:toldD (l.take (k+1))=toldD (l.take k)++[dAdd aBy l[k].1 l[k].2]:=by rw [e];unfold toldD;rw [List.map_append];rfl
  rw [et,playB_snoc]
  have hd:(doB (playB b0 (toldD (l.take k))).1 (dAdd aBy l[k].1 l[k].2)).1=(takeB (playB b0 (toldD (l.take k))).1 srsA l[k].1 l[k].2).1:=rfl
  simp only [hd]
  have hm:=take_more ih'.i ih'.w ih'.hz srsA_ok ih'.ln (t:=l[k].1) (v:=l[k].2) (hin _ (List.getElem_mem hkl)) (fun x hx=>by
   obtain ⟨j,hj,rfl⟩:=List.mem_iff_getElem.1 hx
   simp at hj
   rw [List.getElem_take]
   exact (List.pairwise_iff_getElem.1 hpw) j k (by omega) hkl (by omega)) (by simp;omega)
  refine ⟨takeB_inv ih'.i _ _ _,whole_take ih'.w _ _ _,by rw [takeB_hz];exact ih'.hz,?_⟩
  rw [hm.2,e,if_neg (fun hc=>by have h9:=congrArg List.length hc;rw [List.length_append,List.length_singleton,List.length_nil] at h9;omega)]
theorem told_full {l:List (Int×Int)} (hr:(Grain.wrong l).1=0):OneB (playB b0 (toldD l)).1 l:=by
 have:=told_one hr l.length (Nat.le_refl _)
 rwa [List.take_of_length_le (Nat.le_refl _)] at this
theorem OneB.few {b:Bs} {A:List (Int×Int)} (h:OneB b A) (h5:A.length≤500):FewB 500 b:=by
 intro k hk
 obtain ⟨j,hj,rfl⟩:=List.mem_iff_getElem.1 hk
 have e:=lnn_lnsB hj
 rw [h.ln,kp_get hj] at e
 have hl:=congrArg List.length h.ln
 by_cases hA:A=[]
 ·rw [lnsB_len,if_pos hA] at hl
  simp at hl
  rw [hl] at hj
  simp at hj
 ·rw [if_neg hA] at e
  rw [lnsB_len,if_neg hA] at hl
  have:j=0:=by simp at hl;omega
  subst this
  simp [lnn] at e
  rw [← e.2];exact h5
open Go.RowKit Go.GrainU
theorem blk_beside {w w':World} {base e size n k:Nat} {v:Value} {xs:List Value} {c:Array Value} {t:TypeId} {fr:Nat×Nat} (h:w.ownsRow base e size v n xs) (hg:w.grownBy w' v.ownBlock) (hk:w.heap[k]?=some (.cells c t fr)) (ht:t≠e):w'.heap[k]?=some (.cells c t fr):=by
 rw [hg.block k (lt_of_block hk) (fun h1=>by
  obtain ⟨c',fr',k2⟩:=own_is h k h1.symm
  rw [hk] at k2
  injection k2 with k2
  injection k2 with _ k3 _
  exact ht k3)]
 exact hk
theorem seg_sample {w:World} {ao:Option Addr} {l:List (Int×Int)} (h:Seg w ao (scells l)) {k:Nat} (hk:k<l.length) :
  ∃ b off,ao=some ⟨b,off,none⟩∧b<w.heap.size∧w.cell? ⟨b,off+k*2,none⟩=some (.int .i64 (l[k]).1)∧w.cell? ⟨b,off+k*2+1,none⟩=some (.int .i64 (l[k]).2):=by
 obtain ⟨b,off,e,hc⟩:=h.sample hk
 obtain ⟨c0,c1⟩:=hc k hk
 have e1:Grain.tm l k=(l[k]).1:=by simp [Grain.tm,List.getD,List.getElem?_eq_getElem hk]
 have e2:Grain.vl l k=(l[k]).2:=by simp [Grain.vl,List.getD,List.getElem?_eq_getElem hk]
 rw [e1] at c0
 rw [e2] at c1
 exact ⟨b,off,e,World.block_lt_of_cell? w _ c0,c0,c1⟩
set_option maxHeartbeats 1000000 in
theorem tadd_blk (h:ByteArray) (t v:Int) (w:World) :
  Calls Tryz.prog 33 #[.string h,.int .i64 t,.int .i64 v] w fun e w'=>∃ S:Nat,e=.returned (.agg #[.int .i64 1,.int .i64 0,.int .i64 0,.slice (some ⟨S,0,none⟩) 1 1,.int .i64 t,.int .i64 v,.string ⟨#[]⟩])∧w'.heap[S]?=some (.cells #[.string hostB,.string h] 88 (0,0))∧Below w.heap.size w w':=by
 have FIN:∀ o,Hid (((w.alloc o).alloc (.cells #[.string hostB,.string h] 88)).heap[w.heap.size+1]?=some (.cells #[.string hostB,.string h] 88 (0,0))∧Below w.heap.size w ((w.alloc o).alloc (.cells #[.string hostB,.string h] 88))):=by
  intro o
  refine ⟨?_,((Below.refl _ _).alloc (Nat.le_refl _) _).alloc (by simp) _⟩
  have:=heap_alloc_new (w.alloc o) (.cells #[.string hostB,.string h] 88)
  simpa using this
 have HF:=hide FIN
 clear FIN
 unfold hostB at HF ⊢
 go_enter Tryz.func33,Tryz.ntmps33
 go_wp2
 exact bodyPost_ret (v:=.agg #[.int .i64 1,.int .i64 0,.int .i64 0,.slice (some ⟨w.heap.size+1,0,none⟩) 1 1,.int .i64 t,.int .i64 v,.string ⟨#[]⟩]) (by simp [results,Tryz.results33,go_sem]) rfl ⟨_,rfl,(HF.out _).out.1,(HF.out _).out.2⟩
theorem din_blk {w:World} {S:Nat} {h:ByteArray} {t v:Int} (hb:w.heap[S]?=some (.cells #[.string hostB,.string h] 88 (0,0))) (hh:h.size≤9223372036854775807):DIn w ⟨dAdd h t v,some ⟨S,0,none⟩,1⟩:=by
 obtain ⟨c0,c1,_,_⟩:=two_cells hb
 refine ⟨.inr ⟨S,0,rfl,fun j hj=>?_⟩,?_,fun h=>(by cases h),by show (ByteArray.mk #[]).size≤_;decide⟩
 ·have hj2:j<2:=by simpa [dAdd,lcells] using hj
  rcases j with _ | _ | j
  ·exact c0
  ·exact c1
  ·omega
 ·intro k hk
  have:k=0:=by simp [dAdd] at hk;exact hk
  subst this
  exact ⟨by show hostB.size≤_;decide,hh⟩
def Tls (w:World) (l:List DT):Prop:=∀ x∈l,∃ S t v,x=⟨dAdd aBy t v,some ⟨S,0,none⟩,1⟩∧w.heap[S]?=some (.cells #[.string hostB,.string aBy] 88 (0,0))
theorem Tls.below {w w':World} {l:List DT} (h:Tls w l) (hb:Below w.heap.size w w'):Tls w' l:=fun x hx=>by
 obtain ⟨S,t,v,e,hS⟩:=h x hx
 exact ⟨S,t,v,e,below_block hb hS⟩
theorem Tls.row {w w':World} {base e size n:Nat} {l:List DT} {v:Value} {xs:List Value} (h:Tls w l) (ho:w.ownsRow base e size v n xs) (hg:w.grownBy w' v.ownBlock) (ht:88≠e):Tls w' l:=fun x hx=>by
 obtain ⟨S,t,v,e,hS⟩:=h x hx
 exact ⟨S,t,v,e,blk_beside ho hg hS ht⟩
theorem dns_append (a b:List DT):dns (a++b)=dns a++dns b:=by simp [dns]
set_option maxRecDepth 20000 in
set_option maxHeartbeats 4000000 in
theorem ttold_any (l:List (Int×Int)) (ao:Option Addr) (n cap:Nat) (w:World) (hs:Seg w ao (scells l)) (hn:n=l.length) (h6:n≤1000) :
  Calls Tryz.prog 24 #[.slice ao n cap] w fun e w'=>∃ (tq':Option Addr) (d:Nat) (ds:List DT),e=.returned (.slice tq' n d)∧w'.ownsRow w.heap.size 36 7 (.slice tq' n d) n (dcells ds)∧dns ds=toldD l∧Tls w' ds∧Below w.heap.size w w':=by
 obtain ⟨i0,hi,hz0,hz1,hz2⟩:=sinfo_parts Tryz.infoDo
 have HS:=hide hs
 have HN:=hide hn
 clear hs hn
 go_enter Tryz.func24,Tryz.ntmps24
 go_wp2
 go_loopw [3,8] (fun g i wr=>∃ (k d:Nat) (go:Option Addr) (ds:List DT),k≤n∧i=.int .i64 k∧g=.slice go k d∧wr.ownsRow w.heap.size 36 7 (.slice go k d) k (dcells ds)∧Hid (dns ds=toldD (l.take k))∧Tls wr ds∧Below w.heap.size w wr) (fun _ i _=>n-(intOf i).toNat)
 case atStart=>exact ⟨0,0,none,[],Nat.zero_le _,rfl,rfl,by simpa [dcells] using World.ownsRow_nil _ _ _ _,rfl,fun x hx=>(by cases hx),Below.refl _ _⟩
 case round =>
  obtain ⟨k,d,go,ds,hk,rfl,rfl,own,HD,tls,bel⟩:=hrel
  by_cases hlt:k<n
  ·have hkl:k<l.length:=by rw [← HN.out];exact hlt
   obtain ⟨b,off,rfl,hbl,c0,c1⟩:=seg_sample HS.out hkl
   obtain ⟨t,ht⟩:∃ t,t=(l[k]).1:=⟨_,rfl⟩
   obtain ⟨v,hv⟩:∃ v,v=(l[k]).2:=⟨_,rfl⟩
   have HT:Hid (toldD (l.take (k+1))=toldD (l.take k)++[dAdd aBy t v]):=by
    show _=_
    rw [List.take_add_one,List.getElem?_eq_getElem hkl,ht,hv]
    unfold toldD
    rw [List.map_append];rfl
   have k0:wr.cell? ⟨b,off+k*2,none⟩=some (.int .i64 t):=by rw [ht];exact (bel.cell (p:=⟨b,_,none⟩) hbl).trans c0
   have k1:wr.cell? ⟨b,off+k*2+1,none⟩=some (.int .i64 v):=by rw [hv];exact (bel.cell (p:=⟨b,_,none⟩) hbl).trans c1
   have hki:(k:Int)<(n:Int):=by omega
   obtain ⟨V,hV⟩:∃ V,V=wr.alloc (.cells #[.int .i64 t,.int .i64 v] 34):=⟨_,rfl⟩
   have bV:Below wr.heap.size wr V:=by rw [hV];exact (Below.refl _ _).alloc (Nat.le_refl _) _
   have D0:V.heap[wr.heap.size]?=some (.cells #[.int .i64 t,.int .i64 v] 34 (0,0)):=by rw [hV];exact heap_alloc_new wr _
   obtain ⟨t0,t1,_,_⟩:=two_cells D0
   have PA:=hide (tadd_blk aBy t v V)
   unfold aBy at PA
   have HV:=hide hV
   have own0:=own_below own bV
   have tls0:=tls.below bV
   have bel0:=below_step bV bel
   clear ht hv c0 c1 hV bV own tls bel D0
   go_upto_region 5 with fail
   rw [← HV.out]
   go_wp2_with fail
   refine PA.out.mono ?_
   rintro e w2 ⟨S,rfl,hS,b2⟩
   have own2:=own_below own0 b2
   have tls2:=tls0.below b2
   have bel2:=below_step b2 bel0
   obtain ⟨U,hU⟩:∃ U,U=w2.alloc (.cells #[.int .i64 1,.int .i64 0,.int .i64 0,.slice (some ⟨S,0,none⟩) 1 1,.int .i64 t,.int .i64 v,.string ⟨#[]⟩] 36):=⟨_,rfl⟩
   have bU:Below w2.heap.size w2 U:=by rw [hU];exact (Below.refl _ _).alloc (Nat.le_refl _) _
   have ownU:=own_below own2 bU
   have tlsU:=tls2.below bU
   have belU:=below_step bU bel2
   have hSU:=below_block bU hS
   have HNB:Hid (∀ j u,[Value.int .i64 1,.int .i64 0,.int .i64 0,.slice (some ⟨S,0,none⟩) 1 1,.int .i64 t,.int .i64 v,.string ⟨#[]⟩][j]?=some u→U.cell? ((⟨w2.heap.size,0,none⟩:Addr).add j)=some u):=by
    refine seg_news ?_
    rw [hU]
    have:=seg_new w2 #[.int .i64 1,.int .i64 0,.int .i64 0,.slice (some ⟨S,0,none⟩) 1 1,.int .i64 t,.int .i64 v,.string ⟨#[]⟩] 36
    simpa using this
   have H1:Hid (∀ u∈[Value.int .i64 1,.int .i64 0,.int .i64 0,.slice (some ⟨S,0,none⟩) 1 1,.int .i64 t,.int .i64 v,.string ⟨#[]⟩],u.oneCell'=true):=by
    intro u hu
    simp only [List.mem_cons,List.not_mem_nil,or_false] at hu
    rcases hu with e | e | e | e | e | e | e <;> (subst e;rfl)
   have hs2:U.heap.size=w2.heap.size+1:=by rw [hU];simp
   have hws:w.heap.size≤U.heap.size:=belU.size
   have HU:=hide hU
   clear PA own0 tls0 bel0 own2 tls2 bel2 bU hU hS b2
   go_wp2_with (rw [← HU.out];at_builtin;refine wpList_append_lies _ rfl _ _ 22 rfl w.heap.size 36 i0 (.agg #[.int .i64 0,.int .i64 0,.int .i64 0,.slice none 0 0,.int .i64 0,.int .i64 0,.string ⟨#[]⟩]) 7 80 Tryz.underlying22 hi hz0 hz1 hz2 rfl (by decide) _ _ _ rfl ownU ⟨w2.heap.size,0,none⟩ 1 1 [.int .i64 1,.int .i64 0,.int .i64 0,.slice (some ⟨S,0,none⟩) 1 1,.int .i64 t,.int .i64 v,.string ⟨#[]⟩] rfl rfl HNB.out H1.out (by decide) (by unfold maxLen;omega) (by omega) hws (w2.heap.size+1) hs2 ?_)
   intro g' cp' wz ownZ grZ hatZ hltZ
   have own':wz.ownsRow w.heap.size 36 7 (.slice (some ⟨g',0,none⟩) (k+1) cp') (k+1) (dcells (ds++[⟨dAdd aBy t v,some ⟨S,0,none⟩,1⟩])):=by
    rw [dcells_append]
    exact ownZ
   have tls':Tls wz (ds++[⟨dAdd aBy t v,some ⟨S,0,none⟩,1⟩]):=by
    intro x hx
    rcases List.mem_append.1 hx with e | e
    ·exact tlsU.row ownU grZ (by decide) x e
    ·simp at e
     exact ⟨S,t,v,e,blk_beside ownU grZ hSU (by decide)⟩
   have HD':Hid (dns (ds++[⟨dAdd aBy t v,some ⟨S,0,none⟩,1⟩])=toldD (l.take (k+1))):=by
    show _=_
    rw [dns_append,HD.out,HT.out];rfl
   have belZ:Below w.heap.size w wz:=belU.grown grZ hws (fun j hj=>(own_base ownU j hj).1)
   clear ownU tlsU belU ownZ grZ hatZ hltZ HNB HD HT hSU
   go_wp2
   go_roundw
   case rel=>exact ⟨k+1,cp',_,_,by omega,by go_num,rfl,own',HD',tls',belZ⟩
   case measure=>simp [intOf];omega
  ·have he:k=n:=by omega
   subst he
   have hd:=HD.out
   rw [List.take_of_length_le (by rw [← HN.out];exact Nat.le_refl _)] at hd
   have FIN:=hide (And.intro own (And.intro hd (And.intro tls bel)))
   clear own HD hd tls bel
   go_wp2
   go_ret
   exact ⟨_,_,_,rfl,FIN.out.1,FIN.out.2.1,FIN.out.2.2.1,FIN.out.2.2.2⟩
theorem field_fault (x:Value) (z:Int) (w:World):(Instr.field 43 (.agg #[.int .i64 z,x]) 0).run Tryz.prog w=.ok (.int .i64 z) w:=by
 simp [Instr.field,go_sem,asAgg]
def smallB (l:List (Int×Int)):Bool:=decide ((Grain.wrong l).1=0∧l.length≤60∧(l.length=0∨(l.getD (l.length-1) (0,0)).1≤5000))
set_option maxRecDepth 20000 in
set_option maxHeartbeats 4000000 in
theorem tsmall_any (l:List (Int×Int)) (ao:Option Addr) (n cap:Nat) (w:World) (hs:Seg w ao (scells l)) (hn:n=l.length) (h63:n≤9223372036854775806) :
  Calls Tryz.prog 23 #[.slice ao n cap] w fun e w'=>e=.returned (.bool (smallB l))∧Below w.heap.size w w':=by
 obtain ⟨B,hB⟩:∃ B,B=smallB l:=⟨_,rfl⟩
 obtain ⟨E,hE⟩:∃ E,E=(Grain.wrong l).1:=⟨_,rfl⟩
 obtain ⟨F,hF⟩:∃ F,F=(Grain.wrong l).2:=⟨_,rfl⟩
 have P1:=hide (wrong_len l ao n cap w hs hn)
 rw [← hE,← hF] at P1
 rw [← hB]
 unfold smallB at hB
 rw [← hE,← hn] at hB
 have HB:=hide hB
 have HS:=hide hs
 have HN:=hide hn
 clear hB hE hF hs hn
 go_enter Tryz.func23,Tryz.ntmps23
 go_wp2_with fail
 refine P1.out.mono ?_
 rintro e w1 ⟨rfl,b1⟩
 clear P1
 have HFd:=fun (z:Int)=>field_fault (.int .i64 F) z w1
 by_cases h1:E=0
 ·by_cases h2:n≤60
  ·by_cases h3:n=0
   ·have hb:B=true:=by rw [HB.out];simp [h1,h3]
    subst h1 h3 hb
    go_wp2
    go_ret
    exact ⟨rfl,b1⟩
   ·have hl:n-1<l.length:=by rw [← HN.out];omega
    obtain ⟨b,off,rfl,hbl,c0,c1⟩:=seg_sample HS.out hl
    have eg:l.getD (n-1) (0,0)=l[n-1]:=by simp [List.getD,List.getElem?_eq_getElem hl]
    obtain ⟨t,ht⟩:∃ t,t=(l[n-1]).1:=⟨_,rfl⟩
    have k0:w1.cell? ⟨b,off+(n-1)*2,none⟩=some (.int .i64 t):=by rw [ht];exact (b1.cell (p:=⟨b,_,none⟩) hbl).trans c0
    have hb:B=decide (t≤5000):=by rw [HB.out,eg,← ht];simp [h1,h2,h3]
    have hn1:((n:Int)-1).toNat=n-1:=by omega
    have d2:decide ((n:Int)≤60)=true:=by simp;omega
    have d3:((n:Int) == 0)=false:=by simp;omega
    have hwr:wrap64 ((n:Int)-1)=((n-1:Nat):Int):=by unfold wrap64;omega
    subst h1
    clear HB eg ht c0 c1
    subst hb
    go_wp2
    all_goals (go_ret;exact ⟨by simp_all,b1⟩)
  ·have hb:B=false:=by rw [HB.out];simp [h2]
   have d2:decide ((n:Int)≤60)=false:=by simp;omega
   subst h1 hb
   go_wp2
   go_ret
   exact ⟨rfl,b1⟩
 ·have hb:B=false:=by rw [HB.out];simp [h1]
  have d1:(E == 0)=false:=by simpa using h1
  subst hb
  go_wp2
  go_ret
  exact ⟨rfl,b1⟩
end Go.Proofs.YtoldmigappbjcaaGreatDoor
namespace Grain
theorem sroll_eq {s:Shf} {t:Int} (h:(sroll s t).2=0):(sroll s t).1 = { s with fi:=nfi s t,co:=nco s t,ft:=nft s t,ct:=nct s t }:=by
 unfold sroll at *
 by_cases h1:wrongAt s t≠0
 ·rw [if_pos h1] at h;exact absurd h h1
 rw [if_neg h1] at h ⊢
 by_cases h2:500<(nfi s t).length
 ·rw [if_pos h2] at h;exact absurd h (by simp)
 rw [if_neg h2] at h ⊢
 by_cases h3:500<(nco s t).length
 ·rw [if_pos h3] at h;exact absurd h (by simp)
 rw [if_neg h3]
end Grain
namespace Go.Proofs.YtoldmigappbjcaaGreatDoor
open Go.RowKit Go.GrainU
structure RolB (b:Bs) (A:List (Int×Int)):Prop where
 i:BInv b
 w:Whole b
 hz:b.hz=6000
 ln:lnsB b.l=if A=[] then [] else [(srsA,A)]
 ct:∀ k∈b.l,k.s.ct=6000∧k.s.cf=0∧k.s.ff=0
theorem rol_of {b:Bs} {A:List (Int×Int)} (h:OneB b A) (h5:A.length≤500):RolB (rollB b 6000).1 A∧(rollB b 6000).2=0:=by
 have hf:=h.few h5
 have e:=rollB_ok h.i hf (t:=6000) (by omega) (by omega)
 refine ⟨⟨rollB_inv h.i _,whole_roll h.w _,?_,by rw [lns_roll];exact h.ln,?_⟩,by rw [e]⟩
 ·rw [e]
  show max b.hz (Grain.beg 6000 10)=6000
  rw [h.hz];decide
 ·rw [e]
  intro k hk
  obtain ⟨x,hx,rfl⟩:=List.mem_map.1 hk
  have h0:=Grain.sroll_ok (h.i.kee x hx) (hf x hx) (t:=6000) (by omega) (by omega)
  have hft:x.s.ft=0:=by rw [h.i.ft x hx,h.hz]
  have hsr:=(h.i.kee x hx).sr
  have f1:=hsr.csp
  have f2:=hsr.bd
  have f3:=hsr.fsp
  show (Grain.sroll x.s 6000).1.ct=6000∧(Grain.sroll x.s 6000).1.cf=0∧(Grain.sroll x.s 6000).1.ff=0
  rw [Grain.sroll_eq h0]
  refine ⟨?_,by show x.s.cf=0;omega,by show x.s.ff=0;omega⟩
  show max x.s.ct (Grain.beg (max x.s.ft (Grain.beg 6000 10)) 60)=6000
  rw [hft,show x.s.ct=0 from by omega]
  decide
theorem RolB.few {b:Bs} {A:List (Int×Int)} (h:RolB b A) (h5:A.length≤500):FewB 500 b∧b.l.length≤1:=by
 have hl:=congrArg List.length h.ln
 rw [lnsB_len] at hl
 have h1:b.l.length≤1:=by
  rw [hl];split <;> simp
 refine ⟨fun k hk=>?_,h1⟩
 obtain ⟨j,hj,rfl⟩:=List.mem_iff_getElem.1 hk
 have e:=lnn_lnsB hj
 rw [h.ln,kp_get hj] at e
 by_cases hA:A=[]
 ·rw [if_pos hA] at hl;simp at hl;rw [hl] at hj;simp at hj
 ·rw [if_neg hA] at e
  have:j=0:=by omega
  subst this
  simp [lnn] at e
  rw [← e.2];exact h5
def eWin (wd:ByteArray) (R:Int):Ex:=.mk ⟨2,0,R,wd,[],[]⟩ []
theorem win_chk {wd:ByteArray} (hw:has words8 wd=true) {R T:Int} (r1:1≤R) (r2:R≤100000) (t1:0≤T) (t2:T≤1000000):chk (eWin wd R) T=0∧(wr (eWin wd R) 1 0).1=0∧winBad ⟨2,0,R,wd,[],[]⟩=0:=by
 have hb:winBad ⟨2,0,R,wd,[],[]⟩=0:=by
  unfold winBad
  rw [if_neg (by simp [hw]),if_neg (by simp),if_pos (show msBad ([]:List Mt)=0 from rfl),if_neg (by simp only;omega)]
 have ha:alone ⟨2,0,R,wd,[],[]⟩ 0=0:=by
  unfold alone
  rw [if_neg (by simp),if_pos rfl,if_pos rfl,hb]
 have hwr:wr (eWin wd R) 1 0=(0,0+1):=by
  unfold eWin
  rw [wr,if_neg (by omega),if_pos (by simpa using ha),wrL]
 refine ⟨?_,by rw [hwr],hb⟩
 unfold chk
 rw [hwr,if_pos rfl]
 have ht:typ (eWin wd R)=0:=by unfold eWin;rw [typ,if_neg (by simp),typL]
 rw [if_pos ht,if_neg (by omega)]
end Go.Proofs.YtoldmigappbjcaaGreatDoor
namespace Go.GrainU
open Go.RowKit
end Go.GrainU
namespace Go.Proofs.YtoldmigappbjcaaGreatDoor
open Go.RowKit Go.GrainU
def Dlx (w:World) (x:DT):Prop:=(∃ S h t v,x=⟨dAdd h t v,some ⟨S,0,none⟩,1⟩∧h.size≤9223372036854775807∧w.heap[S]?=some (.cells #[.string hostB,.string h] 88 (0,0)))∨(∃ d,x=⟨d,none,0⟩∧d.se=[]∧d.tx.size≤9223372036854775807)
def Dls (w:World) (l:List DT):Prop:=∀ x∈l,Dlx w x
theorem Dlx.below {w w':World} {x:DT} (h:Dlx w x) (hb:Below w.heap.size w w'):Dlx w' x:=by
 rcases h with ⟨S,h,t,v,e,hh,hS⟩ | h
 ·exact .inl ⟨S,h,t,v,e,hh,below_block hb hS⟩
 ·exact .inr h
theorem Dls.below {w w':World} {l:List DT} (h:Dls w l) (hb:Below w.heap.size w w'):Dls w' l:=fun x hx=>(h x hx).below hb
theorem Dls.of {w:World} {l:List DT} (h:Tls w l):Dls w l:=fun x hx=>by
 obtain ⟨S,t,v,e,hS⟩:=h x hx
 exact .inl ⟨S,aBy,t,v,e,by decide,hS⟩
theorem Dls.row {w w':World} {base e size n:Nat} {l:List DT} {v:Value} {xs:List Value} (h:Dls w l) (ho:w.ownsRow base e size v n xs) (hg:w.grownBy w' v.ownBlock) (ht:88≠e):Dls w' l:=fun x hx=>by
 rcases h x hx with ⟨S,h,t,v,e,hh,hS⟩ | h
 ·exact .inl ⟨S,h,t,v,e,hh,blk_beside ho hg hS ht⟩
 ·exact .inr h
theorem Dls.push {w:World} {l:List DT} {x:DT} (h:Dls w l) (hx:Dlx w x):Dls w (l++[x]):=fun y hy=>by
 rcases List.mem_append.1 hy with e | e
 ·exact h y e
 ·simp at e;rw [e];exact hx
theorem Dls.din {w:World} {l:List DT} (h:Dls w l):∀ x∈l,DIn w x:=fun x hx=>by
 rcases h x hx with ⟨S,h,t,v,e,hh,hS⟩ | ⟨d,e,h1,h2⟩
 ·rw [e];exact din_blk hS hh
 ·rw [e];exact din_none _ _ h1 h2
theorem dcells_one (l:List DT):∀ u∈dcells l,u.oneCell'=true:=by
 induction l with
 | nil=>intro u hu;cases hu
 | cons x r ih =>
  intro u hu
  rcases List.mem_append.1 (show u∈x.cells++dcells r from hu) with e | e
  ·simp only [DT.cells,List.mem_cons,List.not_mem_nil,or_false] at e
   rcases e with e | e | e | e | e | e | e <;> (subst e;rfl)
  ·exact ih u e
end Go.Proofs.YtoldmigappbjcaaGreatDoor
namespace Grain
end Grain
namespace Go.Proofs.YtoldmigappbjcaaGreatDoor
open Go.RowKit Go.GrainU
def dForg (k t:Int):Dn:=⟨3,k,t,[],0,0,⟨#[]⟩⟩
theorem lns_forg (b:Bs) (k t:Int):lnsB (forgB b k t).1.l=lnsB b.l:=by
 unfold forgB
 split
 ·rfl
 ·split
  ·cases he:eachB (fun s=>Grain.sforg s k t) b.l with
   | error x=>rfl
   | ok l=>exact eachB_se (fun s hz=>(sforg_same hz).1) _ _ he
  ·rfl
theorem look_ok {s:Grain.Shf} {f t:Int} (hc:(Grain.choose s f t).2=0):∃ J,lookS s f t=.ok J:=by
 obtain ⟨hv,_,hw⟩:=Grain.choose_ok hc
 have hf:=Grain.cvr_fol hv
 have hrd:Grain.read s (Grain.choose s f t).1=(Grain.rdS s (Grain.choose s f t).1,(Grain.rdN s (Grain.choose s f t).1:Int),0):=by
  unfold Grain.read
  rw [if_neg (by simp [hw]),if_neg (by rw [hf];decide)]
 unfold lookS
 rw [if_pos hc,hrd]
 exact ⟨_,rfl⟩
end Go.Proofs.YtoldmigappbjcaaGreatDoor
namespace Go.GrainU
open Go.RowKit
theorem valP_none {wd:ByteArray}:(valP wd (Grain.of [])).2=false:=by
 unfold valP
 rw [if_pos (by decide)]
theorem win_take {l:List (Int×Int)} {k:Nat} (h:k<l.length) (f t:Int):Grain.win (l.take (k+1)) f t=if f≤(l[k]).1∧(l[k]).1<t then Grain.win (l.take k) f t++[l[k]] else Grain.win (l.take k) f t:=by
 rw [List.take_add_one,List.getElem?_eq_getElem h]
 exact Grain.win_snoc _ _ _ _
end Go.GrainU
namespace Go.Proofs.YtoldmigappbjcaaGreatDoor
open Go.RowKit Go.GrainU
theorem word_base {l:List (Int×Int)} (hr:(Grain.wrong l).1=0):BInv (playB b0 (toldD l++[dRoll 6000]++[dForg 0 6000])).1∧lnsB (playB b0 (toldD l++[dRoll 6000]++[dForg 0 6000])).1.l=(if l=[] then [] else [(srsA,l)])∧∀ k∈(playB b0 (toldD l++[dRoll 6000]++[dForg 0 6000])).1.l,k.s.cf=0∧k.A.length≤500:=by
 have h5:=((Grain.right_iff l).1 hr).1
 have h:=(rol_of (told_full hr) h5).1
 have hf:=(h.few h5).1
 rw [playB_snoc,playB_snoc]
 have e1:∀ c:Bs,(doB c (dForg 0 6000)).1=(forgB c 0 6000).1:=fun c=>rfl
 have e2:∀ c:Bs,(doB c (dRoll 6000)).1=(rollB c 6000).1:=fun c=>rfl
 simp only [e1,e2]
 have e:=forgB_ok h.i (k:=0) (t:=6000) (by omega) (by omega) (.inl rfl)
 refine ⟨forgB_inv h.i _ _,by rw [lns_forg];exact h.ln,?_⟩
 rw [e]
 intro k hk
 obtain ⟨x,hx,rfl⟩:=List.mem_map.1 hk
 have hs:=h.ct x hx
 have hw:=Grain.wrongAt_of (h.i.kee x hx).sr (by omega:(0:Int)≤6000) (by omega:(6000:Int)≤1000000)
 refine ⟨?_,hf x hx⟩
 show (Grain.sforg x.s 0 6000).1.cf=0
 unfold Grain.sforg
 rw [if_neg (by rw [hw];simp),if_pos rfl]
 exact hs.2.1
theorem word_an {l:List (Int×Int)} (hr:(Grain.wrong l).1=0) {wd:ByteArray} (hw:has words8 wd=true) {p q:Int} (hp:0≤p) (hpq:p<q) (hq:q≤80) :
  (anE (playB b0 (toldD l++[dRoll 6000]++[dForg 0 6000])).1 (q*60) (eWin wd ((q-p)*60))).err=0∧(anE (playB b0 (toldD l++[dRoll 6000]++[dForg 0 6000])).1 (q*60) (eWin wd ((q-p)*60))).cs=(if (valP wd (Grain.of (Grain.win l (p*60) (q*60)))).2=true then [(srsA,(valP wd (Grain.of (Grain.win l (p*60) (q*60)))).1)] else []):=by
 obtain ⟨hb,hln,hcf⟩:=word_base hr
 obtain ⟨b,hB⟩:∃ b,b=(playB b0 (toldD l++[dRoll 6000]++[dForg 0 6000])).1:=⟨_,rfl⟩
 rw [← hB] at hb hln hcf ⊢
 have hf:FewB 500 b:=fun k hk=>(hcf k hk).2
 obtain ⟨hc,_,hwb⟩:=win_chk hw (R:=(q-p)*60) (T:=q*60) (by omega) (by omega) (by omega) (by omega)
 have hm:max 0 (q*60-(q-p)*60)=p*60:=by omega
 have hov:=(winT_base hb hf (time:=q*60) (by omega) (by omega) ⟨2,0,(q-p)*60,wd,[],[]⟩ hwb).resolve_left (fun ho=>by
  obtain ⟨i,hi,hs'⟩:=winT_error _ ho
  have hs2:lookS (kp b.l i).s (max 0 (q*60-(q-p)*60)) (q*60)=.error 10:=hs'
  rw [hm] at hs2
  obtain ⟨J,hJ⟩:=look_ok (Grain.choose_gets (hb.kee _ (kp_mem hi)).sr (hcf _ (kp_mem hi)).1 (f:=p*60) (t:=q*60) (by omega) (by omega) (by omega) (by omega) (.inl (by omega)) (.inl (by omega)))
  rw [hJ] at hs2
  cases hs2)
 have he:askE b (q*60) (eWin wd ((q-p)*60))=.ok ⟨false,winC (lnsB b.l) ⟨2,0,(q-p)*60,wd,[],[]⟩ (q*60)⟩:=by
  unfold askE overE
  rw [if_pos hc]
  unfold eWin
  rw [evG,if_neg (by simp),if_pos rfl,hov]
 unfold anE
 rw [he]
 refine ⟨rfl,?_⟩
 show winC (lnsB b.l) ⟨2,0,(q-p)*60,wd,[],[]⟩ (q*60)=_
 rw [hln]
 by_cases hl:l=[]
 ·rw [if_pos hl,hl]
  have e:Grain.win [] (p*60) (q*60)=[]:=rfl
  rw [e,if_neg (by rw [valP_none];decide)]
  rfl
 ·rw [if_neg hl]
  have e:winC [(srsA,l)] ⟨2,0,(q-p)*60,wd,[],[]⟩ (q*60)=winX (srsA,l) ⟨2,0,(q-p)*60,wd,[],[]⟩ (q*60)++[]:=rfl
  rw [e,List.append_nil]
  have hx:winX (srsA,l) ⟨2,0,(q-p)*60,wd,[],[]⟩ (q*60)=if says srsA ([]:List Mt)=true then (if (valP wd (Grain.of (Grain.win l (q*60-(q-p)*60) (q*60)))).2=true then [(srsA,(valP wd (Grain.of (Grain.win l (q*60-(q-p)*60) (q*60)))).1)] else []) else []:=rfl
  rw [hx,if_pos (by simp [says]),show q*60-(q-p)*60=p*60 from by omega]
theorem word_pure {l:List (Int×Int)} (hr:(Grain.wrong l).1=0) (h6:l.length≤60) {wd:ByteArray} (hw:has words8 wd=true) {p q:Int} (hp:0≤p) (hpq:p<q) (hq:q≤80) {s:ByteArray} (hs:prs s.data.toList=.ok (eWin wd ((q-p)*60))) :
  (lastA (toldD l++[dRoll 6000]++[dForg 0 6000]++[dAsk s (q*60)])).err=0∧(lastA (toldD l++[dRoll 6000]++[dForg 0 6000]++[dAsk s (q*60)])).cs=(if (valP wd (Grain.of (Grain.win l (p*60) (q*60)))).2=true then [(srsA,(valP wd (Grain.of (Grain.win l (p*60) (q*60)))).1)] else []):=by
 rw [lastA_snoc (by simp [toldD];omega)]
 have e2:∀ c:Bs,(doB c (dAsk s (q*60))).2=askB c s (q*60):=fun c=>rfl
 rw [e2]
 unfold askB
 rw [hs]
 exact word_an hr hw hp hpq hq
open Go.RowKit Go.GrainU
theorem Tryz.infoSmp3:(Tryz.prog.info? 34).map (fun i=>(i.zero,i.size,i.bytes))=some (some (.agg #[.int .i64 0,.int .i64 0]),2,16):=by kernel_rfl
def wrd (k:Nat):ByteArray:=words8.getD k ⟨#[]⟩
theorem wrd_has:∀ k,k<8→has words8 (wrd k)=true
 | 0,_=>by kernel_rfl
 | 1,_=>by kernel_rfl
 | 2,_=>by kernel_rfl
 | 3,_=>by kernel_rfl
 | 4,_=>by kernel_rfl
 | 5,_=>by kernel_rfl
 | 6,_=>by kernel_rfl
 | 7,_=>by kernel_rfl
 | k+8,h=>by omega
def etW (wd:ByteArray) (R:Int):ET:=.node ⟨2,0,R,wd,[],[]⟩ ⟨none,0,none,0,none,0⟩ []
theorem etW_in (wd:ByteArray) (R:Int) (w:World) (h:wd.size≤9223372036854775806):(etW wd R).In w:=by
 unfold etW
 simp only [ET.In]
 refine ⟨⟨.inl rfl,.inl rfl,.inl rfl⟩,?_,inL_of fun k hk=>by cases hk⟩
 simp
 exact h
theorem etW_prt {wd:ByteArray} (hw:has words8 wd=true) {R:Int} (r1:1≤R) (r2:R≤100000):(prt (etW wd R).ex).2=0∧prs (prt (etW wd R).ex).1.data.toList=.ok (eWin wd R)∧(prt (etW wd R).ex).1.size≤300:=by
 have hwr:=(win_chk hw r1 r2 (T:=0) (by omega) (by omega)).2.1
 have hrt:=(wr_ok _ 1 0 (by omega) hwr).1
 have hsz:=tx_size _ hrt
 have hc:cnt (eWin wd R)=1:=rfl
 rw [hc] at hsz
 have e:(etW wd R).ex=eWin wd R:=rfl
 have hp:prt (etW wd R).ex=(tx (eWin wd R),0):=by
  unfold prt
  rw [e,if_pos hwr,if_neg (by omega)]
 rw [hp]
 have h2:=prs_tx hwr (by omega)
 have eb:bare (eWin wd R)=eWin wd R:=by
  unfold eWin
  rw [bare,bareL]
  rfl
 rw [eb] at h2
 exact ⟨rfl,h2,by show (tx (eWin wd R)).size≤300;omega⟩
theorem word_bd {l:List (Int×Int)} (hr:(Grain.wrong l).1=0) (f t:Int) : -9223372036854775808≤(Grain.of (Grain.win l f t)).t∧(Grain.of (Grain.win l f t)).t≤9223372036854775807:=by
 have hR:=Grain.right_of hr
 have hl5:(Grain.win l f t).length≤500:=Nat.le_trans (Grain.win_len _ _ _) hR.few
 have h1:=(of_ok (Grain_win_val hR f t) hl5).t
 omega
set_option maxRecDepth 20000 in
set_option maxHeartbeats 8000000 in
theorem tword_any (l:List (Int×Int)) (a b:Int) (ao:Option Addr) (n cap:Nat) (w:World) (hs:Seg w ao (scells l)) (hn:n=l.length) (_hcap:n≤cap∧cap≤9223372036854775807) (_hnil:ao=none→n=0∧cap=0) (hT:Tab w) (hv:ErrV w) (h63:n≤9223372036854775806) :
  Calls Tryz.prog 7 #[.slice ao n cap,.int .i64 a,.int .i64 b] w fun e w'=>e=.returned (.bool true)∧Below w.heap.size w w':=by
 obtain ⟨i1,hj,hy0,hy1,hy2⟩:=sinfo_parts Tryz.infoSmp3
 have HS:=hide hs
 obtain ⟨i0,hi,hz0,hz1,hz2⟩:=sinfo_parts Tryz.infoDo
 have P0:=hide (talive_any w hv)
 have P1:=hide (fun (W:World) (hb:Below w.heap.size w W)=>tsmall_any l ao n cap W (hs.below hb) hn h63)
 have P3:=hide (fun (W:World) (hb:Below w.heap.size w W) (h:n≤60)=>ttold_any l ao n cap W (hs.below hb) hn (by omega))
 have HN:=hide hn
 have HV:=hide hv
 have HT:=hide hT
 clear hs hn hv hT
 go_enter Tryz.func7,Tryz.ntmps7
 go_wp2_with fail
 refine P0.out.mono ?_
 rintro e w1 ⟨rfl,b1⟩
 have P1':=hide (P1.out w1 b1)
 clear P0 P1
 obtain ⟨B,hB⟩:∃ B,B=smallB l:=⟨_,rfl⟩
 rw [← hB] at P1'
 go_wp2_with fail
 refine P1'.out.mono ?_
 rintro e w2 ⟨rfl,b2'⟩
 have b2:=below_step b2' b1
 clear P1' b1 b2'
 by_cases hBt:B=false
 ·subst hBt
  clear hB P3
  go_wp2
  go_ret
  exact ⟨rfl,b2⟩
 have hBt':B=true:=by simpa using hBt
 subst hBt'
 clear hBt
 unfold smallB at hB
 have hsm:=of_decide_eq_true hB.symm
 obtain ⟨hr,h6,-⟩:=hsm
 have HR:=hide hr
 have h6n:n≤60:=by rw [HN.out];exact h6
 have H6:=hide h6
 clear hB hr h6
 by_cases ha:a<0
 ·clear P3
  go_wp2
  go_ret
  exact ⟨rfl,b2⟩
 by_cases hba:b≤a
 ·have da:decide (a<0)=false:=by simpa using ha
  clear P3
  go_wp2
  go_ret
  exact ⟨rfl,b2⟩
 by_cases hb8:80<b
 ·have da:decide (a<0)=false:=by simpa using ha
  have db:decide (b≤a)=false:=by simpa using hba
  clear P3
  go_wp2
  go_ret
  exact ⟨rfl,b2⟩
 have da:decide (a<0)=false:=by simpa using ha
 have db:decide (b≤a)=false:=by simpa using hba
 have d8:decide (80<b)=false:=by simpa using hb8
 have hr0:0≤a:=by omega
 have hr1:a<b:=by omega
 have hr2:b≤80:=by omega
 obtain ⟨f,hf⟩:∃ f,f=a*60:=⟨_,rfl⟩
 obtain ⟨t,ht⟩:∃ t,t=b*60:=⟨_,rfl⟩
 obtain ⟨R,hR⟩:∃ R,R=(b-a)*60:=⟨_,rfl⟩
 have s1:wrap64 (a*60)=f:=by rw [hf];unfold wrap64;omega
 have s2:wrap64 (b*60)=t:=by rw [ht];unfold wrap64;omega
 have s3:wrap64 (t-f)=R:=by rw [hf,ht,hR];unfold wrap64;omega
 have r1:1≤R:=by omega
 have r2:R≤100000:=by omega
 have HPu:Hid (∀ (wd:ByteArray) (s:ByteArray),has words8 wd=true→prs s.data.toList=.ok (eWin wd R)→(lastA (toldD l++[dRoll 6000]++[dForg 0 6000]++[dAsk s t])).err=0∧(lastA (toldD l++[dRoll 6000]++[dForg 0 6000]++[dAsk s t])).cs=(if (valP wd (Grain.of (Grain.win l f t))).2=true then [(srsA,(valP wd (Grain.of (Grain.win l f t))).1)] else [])):=fun wd s h1 h2=>by
  rw [hf,ht]
  rw [hR] at h2
  exact word_pure HR.out H6.out h1 hr0 hr1 hr2 h2
 have HBd:=hide (word_bd HR.out f t)
 have HP3:=hide (fun (W:World) (hb:Below w.heap.size w W)=>P3.out W hb h6n)
 clear P3 ha hba hb8 hf ht hR hr0 hr1 hr2
 obtain ⟨W2,hW2⟩:∃ W2,W2=w2:=⟨_,rfl⟩
 rw [← hW2] at b2 ⊢
 clear hW2
 go_wp2
 rw [s1,s2]
 go_loopw [9,45] (fun v i wr=>∃ (k N d:Nat) (io:Option Addr),k≤n∧i=.int .i64 k∧v=.slice io N d∧N≤k∧wr.ownsRow W2.heap.size 34 2 (.slice io N d) N (scells (Grain.win (l.take k) f t))∧Below W2.heap.size W2 wr) (fun _ i _=>n-(intOf i).toNat)
 case atStart=>exact ⟨0,0,0,none,Nat.zero_le _,rfl,rfl,Nat.le_refl _,by simpa [Grain.win,scells] using World.ownsRow_nil _ _ _ _,Below.refl _ _⟩
 case round =>
  obtain ⟨k,N,d,io,hk,rfl,rfl,hNk,own,bel⟩:=hrel
  by_cases hlt:k<n
  ·have hkl:k<l.length:=by rw [← HN.out];exact hlt
   obtain ⟨bb,off,rfl,hbl,c0,c1⟩:=seg_sample HS.out hkl
   have belw:=below_step bel b2
   obtain ⟨x,hx⟩:∃ x,x=(l[k]).1:=⟨_,rfl⟩
   obtain ⟨y,hy⟩:∃ y,y=(l[k]).2:=⟨_,rfl⟩
   have k0:wr.cell? ⟨bb,off+k*2,none⟩=some (.int .i64 x):=by rw [hx];exact (belw.cell (p:=⟨bb,_,none⟩) hbl).trans c0
   have k1:wr.cell? ⟨bb,off+k*2+1,none⟩=some (.int .i64 y):=by rw [hy];exact (belw.cell (p:=⟨bb,_,none⟩) hbl).trans c1
   have HG:Hid (Grain.win (l.take (k+1)) f t=if f≤x∧x<t then Grain.win (l.take k) f t++[(x,y)] else Grain.win (l.take k) f t):=by
    show _=_
    rw [win_take hkl,hx,hy]
   have hki:(k:Int)<(n:Int):=by omega
   obtain ⟨V,hV⟩:∃ V,V=wr.alloc (.cells #[.int .i64 x,.int .i64 y] 34):=⟨_,rfl⟩
   have bV:Below wr.heap.size wr V:=by rw [hV];exact (Below.refl _ _).alloc (Nat.le_refl _) _
   have D0:V.heap[wr.heap.size]?=some (.cells #[.int .i64 x,.int .i64 y] 34 (0,0)):=by rw [hV];exact heap_alloc_new wr _
   obtain ⟨t0,t1,_,_⟩:=two_cells D0
   have HV':=hide hV
   have own0:=own_below own bV
   have bel0:=below_step bV bel
   clear hx hy c0 c1 hV bV own bel D0 belw
   go_upto_region 10 with fail
   rw [← HV'.out]
   by_cases h1:f≤x
   ·have e1:decide (f≤x)=true:=by simpa using h1
    have e1a:decide (x ≥ f)=true:=by simpa using h1
    have e1b:decide (x<f)=false:=by simpa using h1
    by_cases h2:x<t
    ·have HG2:Hid (Grain.win (l.take (k+1)) f t=Grain.win (l.take k) f t++[(x,y)]):=by show _=_;rw [HG.out,if_pos ⟨h1,h2⟩]
     have e2:decide (x<t)=true:=by simpa using h2
     obtain ⟨U,hU⟩:∃ U,U=V.alloc (.cells #[.int .i64 x,.int .i64 y] 34):=⟨_,rfl⟩
     have bU:Below V.heap.size V U:=by rw [hU];exact (Below.refl _ _).alloc (Nat.le_refl _) _
     have ownU:=own_below own0 bU
     have belU:=below_step bU bel0
     have HNB:Hid (∀ j u,(scells [(x,y)])[j]?=some u→U.cell? ((⟨V.heap.size,0,none⟩:Addr).add j)=some u):=by
      refine seg_news ?_
      rw [hU]
      exact seg_new V #[.int .i64 x,.int .i64 y] 34
     have hs2:U.heap.size=V.heap.size+1:=by rw [hU];simp
     have hws:W2.heap.size≤U.heap.size:=belU.size
     have HU:=hide hU
     clear own0 bel0 hU bU HG
     go_wp2_with (rw [← HU.out];at_builtin;refine wpList_append_lies _ rfl _ _ 56 rfl W2.heap.size 34 i1 (.agg #[.int .i64 0,.int .i64 0]) 2 16 Tryz.underlying56 hj hy0 hy1 hy2 rfl (by decide) _ _ _ rfl ownU ⟨V.heap.size,0,none⟩ 1 1 (scells [(x,y)]) rfl rfl HNB.out (scells_one _) (by decide) (by unfold maxLen;omega) (by omega) hws (V.heap.size+1) hs2 ?_)
     intro g' cp' wz ownZ grZ hatZ hltZ
     have own':wz.ownsRow W2.heap.size 34 2 (.slice (some ⟨g',0,none⟩) (N+1) cp') (N+1) (scells (Grain.win (l.take (k+1)) f t)):=by
      rw [HG2.out,scells_append]
      exact ownZ
     have belZ:Below W2.heap.size W2 wz:=belU.grown grZ hws (fun j hj=>(own_base ownU j hj).1)
     clear ownU belU ownZ grZ hatZ hltZ HNB HG2
     go_wp2
     go_roundw
     case rel=>exact ⟨k+1,N+1,cp',_,by omega,by go_num,rfl,by omega,own',belZ⟩
     case measure=>simp [intOf];omega
    ·have HG2:Hid (Grain.win (l.take (k+1)) f t=Grain.win (l.take k) f t):=by show _=_;rw [HG.out,if_neg (fun h=>h2 h.2)]
     have e2:decide (x<t)=false:=by simpa using h2
     have own':V.ownsRow W2.heap.size 34 2 (.slice io N d) N (scells (Grain.win (l.take (k+1)) f t)):=by rw [HG2.out];exact own0
     clear HG HG2 own0
     go_wp2
     go_roundw
     case rel=>exact ⟨k+1,N,d,io,by omega,by go_num,rfl,by omega,own',bel0⟩
     case measure=>simp [intOf];omega
   ·have HG2:Hid (Grain.win (l.take (k+1)) f t=Grain.win (l.take k) f t):=by show _=_;rw [HG.out,if_neg (fun h=>h1 h.1)]
    have e1:decide (f≤x)=false:=by simpa using h1
    have e1a:decide (x ≥ f)=false:=by simpa using h1
    have e1b:decide (x<f)=true:=by simpa using h1
    have own':V.ownsRow W2.heap.size 34 2 (.slice io N d) N (scells (Grain.win (l.take (k+1)) f t)):=by rw [HG2.out];exact own0
    clear HG HG2 own0
    go_wp2
    go_roundw
    case rel=>exact ⟨k+1,N,d,io,by omega,by go_num,rfl,by omega,own',bel0⟩
    case measure=>simp [intOf];omega
  ·have he:k=n:=by omega
   subst he
   rw [List.take_of_length_le (by rw [← HN.out];exact Nat.le_refl _)] at own
   have belw:=below_step bel b2
   obtain ⟨W3,hW3⟩:∃ W3,W3=wr:=⟨_,rfl⟩
   rw [← hW3] at own belw ⊢
   have sgI:=own_seg' own
   have hNw:N=(Grain.win l f t).length:=own_slen own
   have P3':=hide (HP3.out W3 belw)
   have HNw:=hide hNw
   clear hW3 bel own hNw HP3
   go_wp2_with fail
   refine P3'.out.mono ?_
   rintro e w3 ⟨go,d3,ds,rfl,own3,hds,tls3,b3⟩
   have HDs:=hide hds
   clear P3' hds
   go_wp2_with fail
   refine (troll_any 6000 w3).mono ?_
   rintro e w4 ⟨rfl,b4⟩
   have own:=own_below own3 b4
   have dls:=(Dls.of tls3).below b4
   have bel:=below_step b4 b3
   clear own3 tls3 b3 b4
   obtain ⟨nb,hnb⟩:∃ nb,nb=[Value.int .i64 2,.int .i64 0,.int .i64 6000,.slice none 0 0,.int .i64 0,.int .i64 0,.string ⟨#[]⟩,.int .i64 3,.int .i64 0,.int .i64 6000,.slice none 0 0,.int .i64 0,.int .i64 0,.string ⟨#[]⟩]:=⟨_,rfl⟩
   obtain ⟨U,hU⟩:∃ U,U=w4.alloc (.cells #[.int .i64 2,.int .i64 0,.int .i64 6000,.slice none 0 0,.int .i64 0,.int .i64 0,.string ⟨#[]⟩,.int .i64 3,.int .i64 0,.int .i64 6000,.slice none 0 0,.int .i64 0,.int .i64 0,.string ⟨#[]⟩] 36):=⟨_,rfl⟩
   have bU:Below w4.heap.size w4 U:=by rw [hU];exact (Below.refl _ _).alloc (Nat.le_refl _) _
   have ownU:=own_below own bU
   have dlsU:=dls.below bU
   have belU:=below_step bU bel
   have HNB:Hid (∀ j u,nb[j]?=some u→U.cell? ((⟨w4.heap.size,0,none⟩:Addr).add j)=some u):=by
    refine seg_news ?_
    rw [hU,hnb]
    exact seg_new w4 #[.int .i64 2,.int .i64 0,.int .i64 6000,.slice none 0 0,.int .i64 0,.int .i64 0,.string ⟨#[]⟩,.int .i64 3,.int .i64 0,.int .i64 6000,.slice none 0 0,.int .i64 0,.int .i64 0,.string ⟨#[]⟩] 36
   have H1:Hid (∀ u∈nb,u.oneCell'=true):=by
    intro u hu
    rw [hnb] at hu
    simp only [List.mem_cons,List.not_mem_nil,or_false] at hu
    rcases hu with e | e | e | e | e | e | e | e | e | e | e | e | e | e <;> (subst e;rfl)
   have hnl:nb.length=2*7:=by rw [hnb];rfl
   have HCe:Hid (dcells (ds++[⟨dRoll 6000,none,0⟩]++[⟨dForg 0 6000,none,0⟩])=dcells ds++nb):=by
    show _=_
    rw [dcells_append,dcells_append,hnb,List.append_assoc];rfl
   have hs2:U.heap.size=w4.heap.size+1:=by rw [hU];simp
   have hws:W3.heap.size≤U.heap.size:=belU.size
   have HU:=hide hU
   clear own dls bel hU bU hnb
   go_wp2_with (rw [← HU.out];at_builtin;refine wpList_append_lies _ rfl _ _ 22 rfl W3.heap.size 36 i0 (.agg #[.int .i64 0,.int .i64 0,.int .i64 0,.slice none 0 0,.int .i64 0,.int .i64 0,.string ⟨#[]⟩]) 7 80 Tryz.underlying22 hi hz0 hz1 hz2 rfl (by decide) _ _ _ rfl ownU ⟨w4.heap.size,0,none⟩ 2 2 nb rfl hnl HNB.out H1.out (by decide) (by unfold maxLen;omega) (by omega) hws (w4.heap.size+1) hs2 ?_)
   intro g cp wz ownZ grZ hatZ hltZ
   obtain ⟨xs,hxs⟩:∃ xs,xs=ds++[⟨dRoll 6000,none,0⟩]++[⟨dForg 0 6000,none,0⟩]:=⟨_,rfl⟩
   have own:wz.ownsRow W3.heap.size 36 7 (.slice (some ⟨g,0,none⟩) (k+2) cp) (k+2) (dcells xs):=by
    rw [hxs,HCe.out]
    exact ownZ
   have dls:Dls wz xs:=by
    rw [hxs]
    exact ((dlsU.row ownU grZ (by decide)).push (.inr ⟨_,rfl,rfl,by show (ByteArray.mk #[]).size≤_;decide⟩)).push (.inr ⟨_,rfl,rfl,by show (ByteArray.mk #[]).size≤_;decide⟩)
   have bel:Below W3.heap.size W3 wz:=belU.grown grZ hws (fun j hj=>(own_base ownU j hj).1)
   have HX:Hid (dns xs=toldD l++[dRoll 6000]++[dForg 0 6000]):=by
    show _=_
    rw [hxs,dns_append,dns_append,HDs.out];rfl
   have hxl:xs.length=k+2:=by have:=own.1;rw [dcells_length] at this;omega
   obtain ⟨M,hM⟩:∃ M,M=k+2:=⟨_,rfl⟩
   rw [← hM] at own hxl ⊢
   have hM1:0<M:=by omega
   have hM2:M≤64:=by omega
   have HXl:=hide hxl
   clear ownU dlsU belU ownZ grZ hatZ hltZ HNB H1 hs2 hws HU HCe hxs HDs hxl hM hnl
   go_wp2_with fail
   refine (pwords_any wz).mono ?_
   rintro e W6 ⟨gw,rfl,sgw,b6⟩
   have OwnM:=hide (own_below own b6)
   have DlsM:=hide (dls.below b6)
   have b36:=below_step b6 bel
   have SgI:=hide (sgI.below b36)
   have SgW:=hide sgw
   have bw6:=below_step b36 belw
   clear own dls bel sgI sgw b6 b36 belw
   go_wp2
   go_loopw [72] (fun i wr=>∃ q:Nat,q≤8∧i=.int .i64 q∧Below W6.heap.size W6 wr) (fun i _=>8-(intOf i).toNat)
   case atStart=>exact ⟨0,Nat.zero_le _,rfl,Below.refl _ _⟩
   case round =>
    obtain ⟨q,hq,hqi,belq⟩:=hrel
    subst hqi
    by_cases hql:q<8
    ·have hq8:(q:Int)<8:=by omega
     obtain ⟨wb,woff,hwb,hwl,hwc⟩:=seg_word SgW.out (k:=q) (by show q<8;exact hql)
     injection hwb with hwb
     injection hwb with hw1 hw2 _
     subst hw1
     subst hw2
     obtain ⟨wd,hwd⟩:∃ wd,wd=wrd q:=⟨_,rfl⟩
     have c0:wr.cell? ⟨gw,q,none⟩=some (.string wd):=by
      have h1:=hwc q (by show q<8;exact hql)
      rw [Nat.zero_add] at h1
      rw [hwd]
      exact (belq.cell (p:=⟨gw,_,none⟩) hwl).trans h1
     have hhas:has words8 wd=true:=by rw [hwd];exact wrd_has q hql
     have hwsz:wd.size≤9223372036854775806:=by
      have h1:=(win_chk hhas r1 r2 (T:=0) (by omega) (by omega)).2.1
      have h2:=tx_size _ (wr_ok _ 1 0 (by omega) h1).1
      have h3:cnt (eWin wd R)=1:=rfl
      rw [h3] at h2
      have h4:tx (eWin wd R)=wd++lit [40,123]++lit []++lit [125,91]++itoaB R++lit [93,41]:=by
       unfold eWin
       rw [tx,bodyT,if_neg (by simp),if_pos rfl]
       rfl
      rw [h4] at h2
      simp only [ByteArray.size_append] at h2
      omega
     obtain ⟨W7,hW7⟩:∃ W7,W7=wr.alloc (.cells #[.int .i64 2,.int .i64 0,.int .i64 R,.string wd,.slice none 0 0,.slice none 0 0,.slice none 0 0] 41):=⟨_,rfl⟩
     have b7:Below wr.heap.size wr W7:=by rw [hW7];exact (Below.refl _ _).alloc (Nat.le_refl _) _
     have E7:W7.heap[wr.heap.size]?=some (.cells #[.int .i64 2,.int .i64 0,.int .i64 R,.string wd,.slice none 0 0,.slice none 0 0,.slice none 0 0] 41 (0,0)):=by rw [hW7];exact heap_alloc_new wr _
     have bel7:=below_step b7 belq
     obtain ⟨e0,e1,e2,e3,e4,e5,e6⟩:=seven_cells E7
     obtain ⟨Q,hQ⟩:∃ Q,Q=(prt (etW wd R).ex).1:=⟨_,rfl⟩
     obtain ⟨hQ0,hQp,hQs⟩:=etW_prt hhas r1 r2
     have PPr:=hide (pprint_any (etW wd R) W7 (etW_in wd R W7 hwsz) (HT.out.below (below_step bel7 bw6)))
     rw [hQ0,← hQ] at PPr
     rw [← hQ] at hQp hQs
     have ev:eval (etW wd R)=.agg #[.int .i64 2,.int .i64 0,.int .i64 R,.string wd,.slice none 0 0,.slice none 0 0,.slice none 0 0]:=rfl
     rw [ev] at PPr
     obtain ⟨hpu1,hpu2⟩:=HPu.out wd Q hhas hQp
     have HPu1:=hide hpu1
     have HPu2:=hide hpu2
     have HQs:Hid (Q.size≤9223372036854775807):=by show _≤_;omega
     have HW7:=hide hW7
     obtain ⟨Y7,hY7⟩:∃ Y7,Y7=wr.heap.size:=⟨_,rfl⟩
     have HY7:=hide hY7
     rw [← hY7] at e0 e1 e2 e3 e4 e5 e6
     clear hwc hwl hwd hhas hwsz hW7 b7 E7 hQ hQ0 hQp hQs ev hpu1 hpu2 hY7
     go_upto_region 18 with fail
     rw [← HW7.out,← HY7.out]
     go_wp2_with fail
     refine PPr.out.mono ?_
     rintro e w8 ⟨rfl,b8⟩
     have bel8:=below_step b8 bel7
     have ownM:=own_below OwnM.out bel8
     have dlsM:=DlsM.out.below bel8
     have bw8:=below_step bel8 bw6
     clear PPr b8 bel7 e0 e1 e2 e3 e4 e5 e6
     obtain ⟨U,hU⟩:∃ U,U=w8.alloc (.cells #[] 36):=⟨_,rfl⟩
     have bU:Below w8.heap.size w8 U:=by rw [hU];exact (Below.refl _ _).alloc (Nat.le_refl _) _
     have ownE:U.ownsRow w8.heap.size 36 7 (.slice (some ⟨w8.heap.size,0,none⟩) 0 0) 0 []:=by rw [hU];exact World.ownsRow_made w8 #[] 0 (Nat.le_refl _) (by decide) rfl
     have HNB:=hide (seg_news (own_seg (own_below ownM bU)))
     have hml:(dcells xs).length=M*7:=ownM.1
     have HD1:=hide (dcells_one xs)
     have hs2:U.heap.size=w8.heap.size+1:=by rw [hU];simp
     have hws:w8.heap.size≤U.heap.size:=bU.size
     have HU:=hide hU
     have HBU:=hide bU
     clear hU bU
     go_wp2_with (rw [← HU.out];at_builtin;refine wpList_append_lies _ rfl _ _ 22 rfl w8.heap.size 36 i0 (.agg #[.int .i64 0,.int .i64 0,.int .i64 0,.slice none 0 0,.int .i64 0,.int .i64 0,.string ⟨#[]⟩]) 7 80 Tryz.underlying22 hi hz0 hz1 hz2 rfl (by decide) _ _ _ rfl ownE ⟨g,0,none⟩ (M) cp (dcells xs) rfl hml HNB.out HD1.out (by omega) (by unfold maxLen;omega) (by omega) hws (w8.heap.size+1) hs2 ?_)
     intro ga1 cpa1 wza1 ownZ grZ hatZ hltZ
     have own:wza1.ownsRow w8.heap.size 36 7 (.slice (some ⟨ga1,0,none⟩) (M) cpa1) (M) (dcells xs):=ownZ
     have bel:Below w8.heap.size w8 wza1:=HBU.out.grown grZ hws (fun j hj=>(own_base ownE j hj).1)
     have dls:=dlsM.below bel
     clear ownE ownZ grZ hatZ hltZ HNB HD1 hs2 hws HU HBU hml
     go_wp2_with fail
     refine (task_any Q t wza1).mono ?_
     rintro e wk1 ⟨rfl,bk⟩
     have own:=own_below own bk
     have dls:=dls.below bk
     have bel:=below_step bk bel
     clear bk
     obtain ⟨U,hU⟩:∃ U,U=wk1.alloc (.cells #[.int .i64 4,.int .i64 0,.int .i64 t,.slice none 0 0,.int .i64 0,.int .i64 0,.string Q] 36):=⟨_,rfl⟩
     have bU:Below wk1.heap.size wk1 U:=by rw [hU];exact (Below.refl _ _).alloc (Nat.le_refl _) _
     have ownU:=own_below own bU
     have dlsU:=dls.below bU
     have belU:=below_step bU bel
     have HNB:Hid (∀ j u,[Value.int .i64 4,.int .i64 0,.int .i64 t,.slice none 0 0,.int .i64 0,.int .i64 0,.string Q][j]?=some u→U.cell? ((⟨wk1.heap.size,0,none⟩:Addr).add j)=some u):=by
      refine seg_news ?_
      rw [hU]
      have:=seg_new wk1 #[.int .i64 4,.int .i64 0,.int .i64 t,.slice none 0 0,.int .i64 0,.int .i64 0,.string Q] 36
      simpa using this
     have H1:Hid (∀ u∈[Value.int .i64 4,.int .i64 0,.int .i64 t,.slice none 0 0,.int .i64 0,.int .i64 0,.string Q],u.oneCell'=true):=by
      intro u hu
      simp only [List.mem_cons,List.not_mem_nil,or_false] at hu
      rcases hu with e | e | e | e | e | e | e <;> (subst e;rfl)
     have hs2:U.heap.size=wk1.heap.size+1:=by rw [hU];simp
     have hws:w8.heap.size≤U.heap.size:=belU.size
     have HU:=hide hU
     clear own dls bel hU bU
     go_wp2_with (rw [← HU.out];at_builtin;refine wpList_append_lies _ rfl _ _ 22 rfl w8.heap.size 36 i0 (.agg #[.int .i64 0,.int .i64 0,.int .i64 0,.slice none 0 0,.int .i64 0,.int .i64 0,.string ⟨#[]⟩]) 7 80 Tryz.underlying22 hi hz0 hz1 hz2 rfl (by decide) _ _ _ rfl ownU ⟨wk1.heap.size,0,none⟩ 1 1 [Value.int .i64 4,.int .i64 0,.int .i64 t,.slice none 0 0,.int .i64 0,.int .i64 0,.string Q] rfl rfl HNB.out H1.out (by decide) (by unfold maxLen;omega) (by omega) hws (wk1.heap.size+1) hs2 ?_)
     intro gb1 cpb1 wzb1 ownZ grZ hatZ hltZ
     have own:wzb1.ownsRow w8.heap.size 36 7 (.slice (some ⟨gb1,0,none⟩) (M+1) cpb1) (M+1) (dcells (xs++[⟨dAsk Q t,none,0⟩])):=by
      rw [dcells_append]
      exact ownZ
     have dls:Dls wzb1 (xs++[⟨dAsk Q t,none,0⟩]):=(dlsU.row ownU grZ (by decide)).push (.inr ⟨_,rfl,rfl,HQs.out⟩)
     have bel:Below w8.heap.size w8 wzb1:=belU.grown grZ hws (fun j hj=>(own_base ownU j hj).1)
     clear ownU dlsU belU ownZ grZ hatZ hltZ HNB H1 hs2 hws HU
     have PL:=hide (last_any (xs++[⟨dAsk Q t,none,0⟩]) (some ⟨gb1,0,none⟩) (M+1) cpb1 wzb1 (own_seg' own) dls.din (by simp [HXl.out]) (HV.out.below (below_step bel bw8)))
     have HDs2:Hid (dns (xs++[⟨dAsk Q t,none,0⟩])=toldD l++[dRoll 6000]++[dForg 0 6000]++[dAsk Q t]):=by show _=_;rw [dns_append,HX.out];rfl
     rw [HDs2.out] at PL
     clear own dls HDs2
     go_wp2_with fail
     refine PL.out.mono ?_
     rintro e wl1 ⟨y,rfl,hy,hay,bl⟩
     have bel:=below_step bl bel
     have hE0:y.a.err=0:=by rw [hy];exact HPu1.out
     have hCs:cls y.cts=(if (valP wd (Grain.of (Grain.win l f t))).2=true then [(srsA,(valP wd (Grain.of (Grain.win l f t))).1)] else []):=by rw [hay.cs,hy];exact HPu2.out
     rw [hE0]
     obtain ⟨p1,hp1⟩:∃ p,p=y.a.pos:=⟨_,rfl⟩
     obtain ⟨L1,hL1⟩:∃ p,p=y.cts.length:=⟨_,rfl⟩
     obtain ⟨c1,hc1⟩:∃ p,p=y.a.cost:=⟨_,rfl⟩
     obtain ⟨co,hco⟩:∃ p,p=y.co:=⟨_,rfl⟩
     obtain ⟨yc,hyc⟩:∃ p,p=y.cap:=⟨_,rfl⟩
     rw [← hp1,← hL1,← hc1,← hco,← hyc]
     obtain ⟨X,hX⟩:∃ X,X=wl1.alloc (.cells #[.int .i64 0,.int .i64 p1,.slice co L1 yc,.int .i64 c1] 48):=⟨_,rfl⟩
     have bX:Below wl1.heap.size wl1 X:=by rw [hX];exact (Below.refl _ _).alloc (Nat.le_refl _) _
     have X1:X.heap[wl1.heap.size]?=some (.cells #[.int .i64 0,.int .i64 p1,.slice co L1 yc,.int .i64 c1] 48 (0,0)):=by rw [hX];exact heap_alloc_new wl1 _
     have belX:=below_step (below_step bX bel) bel8
     have csX:CsIn X co y.cts:=by rw [hco];exact (hay.below bX).inn
     obtain ⟨Y,hY⟩:∃ Y,Y=wl1.heap.size:=⟨_,rfl⟩
     rw [← hY] at X1
     have HXX:=hide hX
     have HYY:=hide hY
     have HCs:=hide hCs
     have HL1:=hide hL1
     have POf:=hide (of_len (Grain.win l f t) io N d X (SgI.out.below belX) HNw.out (by omega))
     clear PL bl hy hay hE0 hp1 hL1 hc1 hco hyc hX bX bel hY HPu1 HPu2 hCs bel8
     go_upto_region 20 with fail
     rw [← HXX.out,← HYY.out]
     go_wp2_with fail
     refine POf.out.mono ?_
     rintro e w9 ⟨J,HJ,rfl,b9⟩
     have bel9:=below_step b9 belX
     obtain ⟨V,hVV⟩:∃ V,V=valP wd (Grain.of (Grain.win l f t)):=⟨_,rfl⟩
     have hbd:=HBd.out
     rw [← HJ.out] at hbd
     have PV:=hide (mvalue_any J wd w9 hbd.1 hbd.2)
     have hJV:valP wd J=V:=by rw [hVV,HJ.out]
     rw [hJV] at PV
     have hCs:=HCs.out
     rw [← hVV] at hCs
     have X9:=below_block b9 X1
     have cs9:=csX.below b9
     have HCs2:=hide hCs
     clear POf hbd hJV hVV HJ hCs HCs X1 csX b9 belX
     go_wp2_with fail
     refine PV.out.mono ?_
     rintro e w10 ⟨rfl,b10⟩
     have bel10:=below_step b10 bel9
     have X10:=below_block b10 X9
     have cs10:=cs9.below b10
     obtain ⟨y0,y1,y2,y3,-⟩:=four_cells X10
     obtain ⟨V1,V2⟩:=V
     simp only at HCs2 ⊢
     clear PV X9 cs9 b10 bel9
     cases V2 with
     | false =>
      have h0:y.cts.length=0:=by
       have:=congrArg List.length HCs2.out
       rw [cls_len] at this
       simpa using this
      have hl0:L1=0:=by rw [HL1.out];exact h0
      subst hl0
      clear HCs2 HL1 h0 cs10 X10
      go_wp2
      go_roundw
      case rel=>exact ⟨q+1,by omega,by go_num,bel10⟩
      case measure=>simp [intOf];omega
     | true =>
      have h1:y.cts.length=1:=by
       have:=congrArg List.length HCs2.out
       rw [cls_len] at this
       simpa using this
      have hl1:L1=1:=by rw [HL1.out];exact h1
      obtain ⟨cb,coff,hcb,hcl,hcc⟩:=seg_cell cs10.seg (k:=0) (by omega)
      have hv1:(ct y.cts 0).v=V1:=by
       have h2:=HCs2.out
       match hcts:y.cts,h1 with
       | [c],_ =>
        rw [hcts] at h2
        simp [cls,CT.cl] at h2
        simp [ct,h2.2]
      have z1:=(hcc 0 (by omega)).2
      rw [hv1] at z1
      simp only [Nat.zero_mul,Nat.add_zero] at z1
      have hvv:(V1 != V1)=false:=by simp
      subst hl1
      subst hcb
      clear HCs2 HL1 h1 cs10 X10 hcc hv1
      go_wp2
      go_roundw
      case rel=>exact ⟨q+1,by omega,by go_num,bel10⟩
      case measure=>simp [intOf];omega
    ·have belz:=below_step belq bw6
     have hq8:¬ (q:Int)<8:=by omega
     go_wp2
     go_ret
     exact ⟨rfl,belz⟩
end Go.Proofs.YtoldmigappbjcaaGreatDoor
