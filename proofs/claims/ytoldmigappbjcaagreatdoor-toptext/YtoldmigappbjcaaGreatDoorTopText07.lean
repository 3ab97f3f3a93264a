import Derived.Below
import Derived.ChangeOld
import Derived.Deep.Slices
import Derived.OpenShut
import Derived.ProofKit
import Derived.SizedLaws
import Derived.Test.YtoldmigappbjcaaGreatDoorK01
import Derived.Test.YtoldmigappbjcaaGreatDoorK05
import Derived.Test.YtoldmigappbjcaaGreatDoorK14
import Derived.Test.YtoldmigappbjcaaGreatDoorK26
import Derived.Test.YtoldmigappbjcaaGreatDoorK31
import Derived.Test.YtoldmigappbjcaaGreatDoorRows
import Derived.Test.YtoldmigappbjcaaGreatDoorTopText01
import Derived.Test.YtoldmigappbjcaaGreatDoorTopText02
import Derived.Test.YtoldmigappbjcaaGreatDoorTopText04
import Derived.Test.YtoldmigappbjcaaGreatDoorTopText06
namespace Go.GrainU
open Go.RowKit
theorem weights_mem_all {H:Type} {P:Program} {e:TypeId} {l:List (DataW H)} {d:DataW H} (h:d∈l):∀ n∈d.weights P e,n∈DataW.weightsAll P e l:=by
 induction l with
 | nil=>cases h
 | cons a r ih =>
  intro n hn
  simp only [DataW.weightsAll,List.mem_append]
  rcases List.mem_cons.1 h with e | e
  ·rw [e] at hn;exact .inl hn
  ·exact .inr (ih e n hn)
end Go.GrainU
namespace Go.Proofs.YtoldmigappbjcaaGreatDoor
open Go.ChangeShapes Go.WideShapes Go.ChangeAt Go.RowKit Go.GrainU
theorem Tryz.laidOut:laidOutB Tryz.prog=true:=by kernel_rfl
theorem Tryz.cellsInt:Tryz.prog.cellsOf 3=1:=by kernel_rfl
theorem field_i64 {H:Type} {enc:TypeId×Value→H} {W:World} {n:Nat} {c:Value} {y:DataW H×List MemPlace} (h:DataW.trod enc Tryz.prog W 0 (fun _=>true) true n 3 [c]=some y):∃ z,c=.int .i64 z:=by
 obtain ⟨z,hz,_,_⟩:=DataW.trod_int Tryz.underlying3 h
 exact ⟨z,by simpa using hz⟩
end Go.Proofs.YtoldmigappbjcaaGreatDoor
namespace Go.GrainU
open Go.RowKit
theorem scells_flat (l:List (Int×Int)):scells l=l.flatMap fun x=>[.int .i64 x.1,.int .i64 x.2]:=by
 induction l with
 | nil=>rfl
 | cons x r ih=>simp [scells,ih]
instance:Inhabited LT:=⟨lt0⟩
theorem list2 {α:Type} {l:List α} (h:l.length=2):∃ a b,l=[a,b]:=by
 match l,h with
 | [a,b],_=>exact ⟨a,b,rfl⟩
end Go.GrainU
namespace Go.Proofs.YtoldmigappbjcaaGreatDoor
open Go.ChangeShapes Go.WideShapes Go.ChangeAt Go.RowKit Go.GrainU
theorem Tryz.cellsSample2:Tryz.prog.cellsOf 34=2:=by kernel_rfl
theorem Tryz.bytesSample:Tryz.prog.bytesOf 34=16:=by kernel_rfl
theorem open_list2 {H:Type} {enc:TypeId×Value→H} {W:World} {α:Type} [Inhabited α] {fuel:Nat} {t e:TypeId} {cs:List Value} {x:DataW H×List MemPlace} (cell:α→List Value) (Q:α→Prop) (c:Nat) (hc:0<c) (hcl:∀ a,(cell a).length=c)
  (hcells:Tryz.prog.cellsOf e=c) (_hb:1≤Tryz.prog.bytesOf e) (ht:Tryz.prog.underlying t=some (.slice e)) (h:DataW.trod enc Tryz.prog W 0 (fun _=>true) true fuel t cs=some x) (hw:∀ n∈x.1.weights Tryz.prog t,n≤reachBytes)
  (each:∀ n cs' y,n<fuel→DataW.trod enc Tryz.prog W 0 (fun _=>true) true n e cs'=some y→(∀ k∈y.1.weights Tryz.prog e,k≤reachBytes)→∃ a,cs'=cell a∧Q a) :
  ∃ (l:List α) (ao:Option Addr) (cap:Nat),cs=[.slice ao l.length cap]∧Seg W ao (l.flatMap cell)∧(∀ a∈l,Q a)∧l.length≤cap∧l.length*Tryz.prog.bytesOf e≤reachBytes∧(ao=none→l.length=0∧cap=0)∧cap≤maxLen:=by
 rcases DataW.trod_slice ht h with ⟨hcs,_⟩ | ⟨a,len,cap,elems,rest,n,hn,hcs,hx,_,hl,hm,hlen,hel,hsp,hns⟩
 ·exact ⟨[],none,0,hcs,.inl rfl,fun a ha=>by (cases ha),Nat.le_refl _,by simp,fun _=>⟨rfl,rfl⟩,Nat.zero_le _⟩
 ·have hwt:∀ k,k∈(elems.length+rest.length)*Tryz.prog.bytesOf e::(DataW.weightsAll Tryz.prog e (elems.map (·.1))++DataW.weightsAll Tryz.prog e (rest.map (·.1)))→k≤reachBytes:=by
   intro k hk
   refine hw k ?_
   rw [hx]
   simp only [DataW.weights,ht]
   simpa using hk
  have hlb:len*Tryz.prog.bytesOf e≤reachBytes:=by
   have h1:=hwt _ (List.mem_cons_self ..)
   have h2:len*Tryz.prog.bytesOf e≤(elems.length+rest.length)*Tryz.prog.bytesOf e:=Nat.mul_le_mul_right _ (by omega)
   omega
  have ex:∀ i,i<len→∃ y:α,(∀ j,j<c→W.cell? (a.add (i*c+j))=(cell y)[j]?)∧Q y:=by
   intro i hi
   have h1:=hel i hi
   have hi':i<elems.length:=by omega
   rw [List.getElem?_eq_getElem hi',Option.bind_eq_some_iff] at h1
   obtain ⟨cs',h2,h3⟩:=h1
   rw [hcells] at h2
   obtain ⟨_,hlen',hcc⟩:=World.cells?_some h2
   obtain ⟨y,rfl,hq⟩:=each n cs' _ (by omega) h3 (fun k hk=>hwt k (List.mem_cons_of_mem _ (List.mem_append_left _ (weights_mem_all (List.mem_map_of_mem (List.getElem_mem hi')) k hk))))
   refine ⟨y,fun j hj=>?_,hq⟩
   have:=hcc j hj
   rw [Go.Deep.add_add] at this
   exact this
  obtain ⟨f,hf⟩:=Go.Deep.choose_lt ex
  refine ⟨(List.range len).map f,some a,cap,by simpa using hcs,?_,fun y hy=>?_,by simpa using hl,by simpa using hlb,fun h=>(by cases h),hm⟩
  ·rcases Nat.eq_zero_or_pos len with h0 | h0
   ·subst h0;exact .inl rfl
   ·obtain ⟨b,off,spot⟩:=a
    have hspot:spot=none:=by
     have h1:=(hf 0 h0).1 0 hc
     have h2:0<(cell (f 0)).length:=by rw [hcl];exact hc
     rw [List.getElem?_eq_getElem h2] at h1
     simp only [Nat.zero_mul,Nat.add_zero] at h1
     simpa [Addr.add] using World.cell?_spot h1
    subst hspot
    rw [List.flatMap_map]
    refine seg_of hc f cell hcl (fun i hi j hj=>?_)
    have:=(hf i hi).1 j hj
    rw [Go.WideShapes.add_plain] at this
    exact this
  ·obtain ⟨i,hi,rfl⟩:=List.mem_map.1 hy
   exact (hf i (by simpa using hi)).2
theorem open_smp {H:Type} {enc:TypeId×Value→H} {W:World} {n:Nat} {cs:List Value} {x:DataW H×List MemPlace}
  (h:DataW.trod enc Tryz.prog W 0 (fun _=>true) true n 34 cs=some x):∃ k:Int×Int,cs=[.int .i64 k.1,.int .i64 k.2]:=by
 obtain ⟨xs,m,_,hx,hl,hlen,hf⟩:=DataW.trod_struct Tryz.underlying34 h
 rw [Tryz.cellsSample2] at hl
 have hlen':xs.length=2:=hlen
 obtain ⟨c0,c1,rfl⟩:=list2 hl
 obtain ⟨x0,x1,rfl⟩:=list2 hlen'
 have g0:DataW.trod enc Tryz.prog W 0 (fun _=>true) true m 3 ((List.drop 0 [c0,c1]).take (Tryz.prog.cellsOf 3))=some x0:=hf 0 _ rfl
 have g1:DataW.trod enc Tryz.prog W 0 (fun _=>true) true m 3 ((List.drop 1 [c0,c1]).take (Tryz.prog.cellsOf 3))=some x1:=hf 1 _ rfl
 rw [Tryz.cellsInt] at g0 g1
 simp only [List.drop_zero,List.drop_succ_cons,List.take_succ_cons,List.take_zero] at g0 g1
 obtain ⟨z0,rfl⟩:=field_i64 g0
 obtain ⟨z1,rfl⟩:=field_i64 g1
 exact ⟨⟨z0,z1⟩,rfl⟩
end Go.Proofs.YtoldmigappbjcaaGreatDoor
namespace Go.GrainU
open Go.RowKit
end Go.GrainU
namespace Go.Proofs.YtoldmigappbjcaaGreatDoor
open Go.ChangeShapes Go.WideShapes Go.ChangeAt Go.RowKit Go.GrainU
theorem open_smps {H:Type} {enc:TypeId×Value→H} {W:World} {fuel:Nat} {cs:List Value} {x:DataW H×List MemPlace}
  (h:DataW.trod enc Tryz.prog W 0 (fun _=>true) true fuel 56 cs=some x) (hw:∀ k∈x.1.weights Tryz.prog 56,k≤reachBytes) :
  ∃ (l:List (Int×Int)) (ao:Option Addr) (cap:Nat),cs=[.slice ao l.length cap]∧Seg W ao (scells l)∧l.length≤cap∧l.length*16≤reachBytes∧(ao=none→l.length=0∧cap=0)∧cap≤9223372036854775807:=by
 obtain ⟨l,ao,cap,e,sg,_,l1,b,n1,m1⟩:=open_list2 (α:=Int×Int) (fun x=>[.int .i64 x.1,.int .i64 x.2]) (fun _=>True) 2 (by decide) (fun _=>rfl) Tryz.cellsSample2 (by rw [Tryz.bytesSample];decide) Tryz.underlying56 h hw (fun n cs' y _ hy _=>by
  obtain ⟨k,hk⟩:=open_smp hy
  exact ⟨k,hk,trivial⟩)
 rw [← scells_flat] at sg
 rw [Tryz.bytesSample] at b
 exact ⟨l,ao,cap,e,sg,l1,b,n1,by unfold maxLen at m1;exact m1⟩
end Go.Proofs.YtoldmigappbjcaaGreatDoor
namespace Go.GrainU
open Go.RowKit
theorem tell_in {a b:List Ln} {s:Lb} {A:List (Int×Int)} {x:Int×Int} (hl:lpos (a++[(s,A)]++b) s=a.length):tellP (a++[(s,A)]++b) s x=a++[(s,A++[x])]++b:=by
 have hh:lhas (a++[(s,A)]++b) s=true:=by
  unfold lhas
  rw [hl]
  simp [lnn,List.getD,cmpS_self]
 unfold tellP
 rw [if_pos hh,hl]
 simp [lnn,List.getD]
theorem tell_new {a b:List Ln} {s:Lb} {x:Int×Int} (hl:lpos (a++b) s=a.length) (hn:b=[]∨cmpS (lser b 0) s≠0):tellP (a++b) s x=a++[(s,[x])]++b:=by
 have hh:¬ lhas (a++b) s=true:=by
  unfold lhas
  rw [hl]
  rcases hn with h | h
  ·subst h;simp
  ·intro hc
   simp only [Bool.and_eq_true,decide_eq_true_eq] at hc
   apply h
   have:=hc.2
   rw [show (lnn (a++b) a.length).1=lser b 0 from by simp [lnn,lser,List.getD,List.getElem?_append_right (Nat.le_refl a.length)]] at this
   exact this
 unfold tellP
 rw [if_neg hh,hl]
 simp
end Go.GrainU
namespace Go.Proofs.YtoldmigappbjcaaGreatDoor
open Go.RowKit Go.GrainU
end Go.Proofs.YtoldmigappbjcaaGreatDoor
namespace Go.GrainU
open Go.RowKit
theorem take_more {b:Bs} (hb:BInv b) (hw:Whole b) (hz:b.hz=0) {s:Lb} (hs:wrongS s=0) {A:List (Int×Int)} (hl:lnsB b.l=if A=[] then [] else [(s,A)]) {t v:Int} (hin:Grain.inR t v=true) (hlast:∀ x∈A,x.1<t) (h5:A.length<500) :
  (takeB b s t v).2=0∧lnsB (takeB b s t v).1.l=[(s,A++[(t,v)])]:=by
 have ht:0≤t:=by simp [Grain.inR] at hin;omega
 have herr:(takeB b s t v).2=0:=by
  unfold takeB
  rw [if_neg (by simp [hs]),if_neg (by rw [hin];decide),if_neg (by rw [hz];omega)]
  by_cases hA:A=[]
  ·rw [if_pos hA] at hl
   have hb0:b.l=[]:=by simpa [lnsB] using hl
   rw [if_neg (by rw [hb0];simp [bhas,bpos]),putN_err hb hs hin (by rw [hz];omega),hb0]
   simp
  ·rw [if_neg hA] at hl
   have h1:b.l.length=1:=by
    have:=congrArg List.length hl
    rw [lnsB_len] at this
    simpa using this
   have hh:bhas b.l s=true:=by rw [← lhas_lnsB,hl];simp [lhas,lpos,cmpS_self,lnn]
   have hp:bpos b.l s=0:=by rw [← lpos_lnsB,hl];simp [lpos,cmpS_self]
   have h0:0<b.l.length:=by omega
   have e:=lnn_lnsB h0
   rw [hl] at e
   have hA2:(kp b.l 0).A=A:=(Prod.mk.inj (show (s,A)=_ from e)).2.symm
   have k1:=hb.kee _ (kp_mem h0)
   have r1:=Grain.whole_ra k1 (hw _ (kp_mem h0))
   rw [if_pos hh,putB_err,hp,Grain.sapp_err k1 (by rw [r1,hA2];exact h5) hin,if_neg]
   unfold Grain.late
   rw [hb.ft _ (kp_mem h0),hz,r1,hA2]
   have hd:decide (t<0)=false:=by simp;omega
   rw [hd,Bool.false_or]
   cases hg:A.getLast? with
   | none=>simp
   | some y =>
    have:=hlast y (List.mem_of_getLast? hg)
    simp;omega
 refine ⟨herr,?_⟩
 rw [tell_take herr,hl]
 by_cases hA:A=[]
 ·rw [if_pos hA,hA]
  exact tell_new (a:=[]) (b:=[]) rfl (.inl rfl)
 ·rw [if_neg hA]
  refine tell_in (a:=[]) (b:=[]) ?_
  simp [lpos,cmpS_self]
end Go.GrainU
namespace Go.Proofs.YtoldmigappbjcaaGreatDoor
open Go.RowKit Go.GrainU
def aBy:ByteArray:=⟨#[97]⟩
def srsA:Lb:=[(hostB,aBy)]
theorem srsA_ok:wrongS srsA=0:=by kernel_rfl
def toldD (l:List (Int×Int)):List Dn:=l.map fun x=>dAdd aBy x.1 x.2
theorem lastA_snoc {l:List Dn} {d:Dn} (h:l.length+1≤120):lastA (l++[d])=(doB (playB b0 l).1 d).2:=by
 unfold lastA
 rw [if_neg (by simp;omega),playB_snoc]
 have:=playB_len l b0
 simp [List.getD,this]
structure OneB (b:Bs) (A:List (Int×Int)):Prop where
 i:BInv b
 w:Whole b
 hz:b.hz=0
 ln:lnsB b.l=if A=[] then [] else [(srsA,A)]
theorem told_one {l:List (Int×Int)} (hr:(Grain.wrong l).1=0):∀ k,k≤l.length→OneB (playB b0 (toldD (l.take k))).1 (l.take k):=by
 obtain ⟨h5,hin,hpw⟩:=(Grain.right_iff l).1 hr
 intro k
 induction k with
 | zero=>intro _;exact ⟨b0_inv,fun k hk=>by simp [toldD,playB,b0] at hk,rfl,rfl⟩
 | succ k ih =>
  intro hk
  have hkl:k<l.length:=by omega
  have ih':=ih (by omega)
  have e:l.take (k+1)=l.take k++[l[k]]:=by rw [List.take_add_one,List.getElem?_eq_getElem hkl];rfl
  have et:toldD (l.take (k+1))=toldD (l.take k)++[dAdd aBy l[k].1 l[k].2]:=by rw [e];unfold toldD;rw [List.map_append];rfl
  rw [et,playB_snoc]
  have hd:(doB (playB b0 (toldD (l.take k))).1 (dAdd aBy l[k].1 l[k].2)).1=(takeB (playB b0 (toldD (l.take k))).1 srsA l[k].1 l[k].2).1:=rfl
  simp only [hd]
  have hm:=take_more ih'.i ih'.w ih'.hz srsA_ok ih'.ln (t:=l[k].1) (v:=l[k].2) (hin _ (List.getElem_mem hkl)) (fun x hx=>by
   obtain ⟨j,hj,rfl⟩:=List.mem_iff_getElem.1 hx
   simp at hj
   rw [List.getElem_take]
   exact (List.pairwise_iff_getElem.1 hpw) j k (by omega) hkl (by omega)) (by simp;omega)
  refine ⟨takeB_inv ih'.i _ _ _,whole_take ih'.w _ _ _,by rw [takeB_hz];exact ih'.hz,?_⟩
  rw [hm.2,e,if_neg (fun hc=>by have h9:=congrArg List.length hc;rw [List.length_append,List.length_singleton,List.length_nil] at h9;omega)]
theorem told_full {l:List (Int×Int)} (hr:(Grain.wrong l).1=0):OneB (playB b0 (toldD l)).1 l:=by
 have:=told_one hr l.length (Nat.le_refl _)
 rwa [List.take_of_length_le (Nat.le_refl _)] at this
theorem OneB.few {b:Bs} {A:List (Int×Int)} (h:OneB b A) (h5:A.length≤500):FewB 500 b:=by
 intro k hk
 obtain ⟨j,hj,rfl⟩:=List.mem_iff_getElem.1 hk
 have e:=lnn_lnsB hj
 rw [h.ln,kp_get hj] at e
 have hl:=congrArg List.length h.ln
 by_cases hA:A=[]
 ·rw [lnsB_len,if_pos hA] at hl
  simp at hl
  rw [hl] at hj
  simp at hj
 ·rw [if_neg hA] at e
  rw [lnsB_len,if_neg hA] at hl
  have:j=0:=by simp at hl;omega
  subst this
  simp [lnn] at e
  rw [← e.2];exact h5
open Go.RowKit Go.GrainU
theorem blk_beside {w w':World} {base e size n k:Nat} {v:Value} {xs:List Value} {c:Array Value} {t:TypeId} {fr:Nat×Nat} (h:w.ownsRow base e size v n xs) (hg:w.grownBy w' v.ownBlock) (hk:w.heap[k]?=some (.cells c t fr)) (ht:t≠e):w'.heap[k]?=some (.cells c t fr):=by
 rw [hg.block k (lt_of_block hk) (fun h1=>by
  obtain ⟨c',fr',k2⟩:=own_is h k h1.symm
  rw [hk] at k2
  injection k2 with k2
  injection k2 with _ k3 _
  exact ht k3)]
 exact hk
theorem seg_sample {w:World} {ao:Option Addr} {l:List (Int×Int)} (h:Seg w ao (scells l)) {k:Nat} (hk:k<l.length) :
  ∃ b off,ao=some ⟨b,off,none⟩∧b<w.heap.size∧w.cell? ⟨b,off+k*2,none⟩=some (.int .i64 (l[k]).1)∧w.cell? ⟨b,off+k*2+1,none⟩=some (.int .i64 (l[k]).2):=by
 obtain ⟨b,off,e,hc⟩:=h.sample hk
 obtain ⟨c0,c1⟩:=hc k hk
 have e1:Grain.tm l k=(l[k]).1:=by simp [Grain.tm,List.getD,List.getElem?_eq_getElem hk]
 have e2:Grain.vl l k=(l[k]).2:=by simp [Grain.vl,List.getD,List.getElem?_eq_getElem hk]
 rw [e1] at c0
 rw [e2] at c1
 exact ⟨b,off,e,World.block_lt_of_cell? w _ c0,c0,c1⟩
set_option maxHeartbeats 1000000 in
theorem tadd_blk (h:ByteArray) (t v:Int) (w:World) :
  Calls Tryz.prog 33 #[.string h,.int .i64 t,.int .i64 v] w fun e w'=>∃ S:Nat,e=.returned (.agg #[.int .i64 1,.int .i64 0,.int .i64 0,.slice (some ⟨S,0,none⟩) 1 1,.int .i64 t,.int .i64 v,.string ⟨#[]⟩])∧w'.heap[S]?=some (.cells #[.string hostB,.string h] 88 (0,0))∧Below w.heap.size w w':=by
 have FIN:∀ o,Hid (((w.alloc o).alloc (.cells #[.string hostB,.string h] 88)).heap[w.heap.size+1]?=some (.cells #[.string hostB,.string h] 88 (0,0))∧Below w.heap.size w ((w.alloc o).alloc (.cells #[.string hostB,.string h] 88))):=by
  intro o
  refine ⟨?_,((Below.refl _ _).alloc (Nat.le_refl _) _).alloc (by simp) _⟩
  have:=heap_alloc_new (w.alloc o) (.cells #[.string hostB,.string h] 88)
  simpa using this
 have HF:=hide FIN
 clear FIN
 unfold hostB at HF ⊢
 go_enter Tryz.func33,Tryz.ntmps33
 go_wp2
 exact bodyPost_ret (v:=.agg #[.int .i64 1,.int .i64 0,.int .i64 0,.slice (some ⟨w.heap.size+1,0,none⟩) 1 1,.int .i64 t,.int .i64 v,.string ⟨#[]⟩]) (by simp [results,Tryz.results33,go_sem]) rfl ⟨_,rfl,(HF.out _).out.1,(HF.out _).out.2⟩
theorem din_blk {w:World} {S:Nat} {h:ByteArray} {t v:Int} (hb:w.heap[S]?=some (.cells #[.string hostB,.string h] 88 (0,0))) (hh:h.size≤9223372036854775807):DIn w ⟨dAdd h t v,some ⟨S,0,none⟩,1⟩:=by
 obtain ⟨c0,c1,_,_⟩:=two_cells hb
 refine ⟨.inr ⟨S,0,rfl,fun j hj=>?_⟩,?_,fun h=>(by cases h),by show (ByteArray.mk #[]).size≤_;decide⟩
 ·have hj2:j<2:=by simpa [dAdd,lcells] using hj
  rcases j with _ | _ | j
  ·exact c0
  ·exact c1
  ·omega
 ·intro k hk
  have:k=0:=by simp [dAdd] at hk;exact hk
  subst this
  exact ⟨by show hostB.size≤_;decide,hh⟩
def Tls (w:World) (l:List DT):Prop:=∀ x∈l,∃ S t v,x=⟨dAdd aBy t v,some ⟨S,0,none⟩,1⟩∧w.heap[S]?=some (.cells #[.string hostB,.string aBy] 88 (0,0))
theorem Tls.below {w w':World} {l:List DT} (h:Tls w l) (hb:Below w.heap.size w w'):Tls w' l:=fun x hx=>by
 obtain ⟨S,t,v,e,hS⟩:=h x hx
 exact ⟨S,t,v,e,below_block hb hS⟩
theorem Tls.row {w w':World} {base e size n:Nat} {l:List DT} {v:Value} {xs:List Value} (h:Tls w l) (ho:w.ownsRow base e size v n xs) (hg:w.grownBy w' v.ownBlock) (ht:88≠e):Tls w' l:=fun x hx=>by
 obtain ⟨S,t,v,e,hS⟩:=h x hx
 exact ⟨S,t,v,e,blk_beside ho hg hS ht⟩
theorem Tls.din {w:World} {l:List DT} (h:Tls w l):∀ x∈l,DIn w x:=fun x hx=>by
 obtain ⟨S,t,v,e,hS⟩:=h x hx
 rw [e];exact din_blk hS (by decide)
theorem dns_append (a b:List DT):dns (a++b)=dns a++dns b:=by simp [dns]
set_option maxRecDepth 20000 in
set_option maxHeartbeats 4000000 in
theorem ttold_any (l:List (Int×Int)) (ao:Option Addr) (n cap:Nat) (w:World) (hs:Seg w ao (scells l)) (hn:n=l.length) (h6:n≤1000) :
  Calls Tryz.prog 24 #[.slice ao n cap] w fun e w'=>∃ (tq':Option Addr) (d:Nat) (ds:List DT),e=.returned (.slice tq' n d)∧w'.ownsRow w.heap.size 36 7 (.slice tq' n d) n (dcells ds)∧dns ds=toldD l∧Tls w' ds∧Below w.heap.size w w':=by
 obtain ⟨i0,hi,hz0,hz1,hz2⟩:=sinfo_parts Tryz.infoDo
 have HS:=hide hs
 have HN:=hide hn
 clear hs hn
 go_enter Tryz.func24,Tryz.ntmps24
 go_wp2
 go_loopw [3,8] (fun g i wr=>∃ (k d:Nat) (go:Option Addr) (ds:List DT),k≤n∧i=.int .i64 k∧g=.slice go k d∧wr.ownsRow w.heap.size 36 7 (.slice go k d) k (dcells ds)∧Hid (dns ds=toldD (l.take k))∧Tls wr ds∧Below w.heap.size w wr) (fun _ i _=>n-(intOf i).toNat)
 case atStart=>exact ⟨0,0,none,[],Nat.zero_le _,rfl,rfl,by simpa [dcells] using World.ownsRow_nil _ _ _ _,rfl,fun x hx=>(by cases hx),Below.refl _ _⟩
 case round =>
  obtain ⟨k,d,go,ds,hk,rfl,rfl,own,HD,tls,bel⟩:=hrel
  by_cases hlt:k<n
  ·have hkl:k<l.length:=by rw [← HN.out];exact hlt
   obtain ⟨b,off,rfl,hbl,c0,c1⟩:=seg_sample HS.out hkl
   obtain ⟨t,ht⟩:∃ t,t=(l[k]).1:=⟨_,rfl⟩
   obtain ⟨v,hv⟩:∃ v,v=(l[k]).2:=⟨_,rfl⟩
   have HT:Hid (toldD (l.take (k+1))=toldD (l.take k)++[dAdd aBy t v]):=by
    show _=_
    rw [List.take_add_one,List.getElem?_eq_getElem hkl,ht,hv]
    unfold toldD
    rw [List.map_append];rfl
   have k0:wr.cell? ⟨b,off+k*2,none⟩=some (.int .i64 t):=by rw [ht];exact (bel.cell (p:=⟨b,_,none⟩) hbl).trans c0
   have k1:wr.cell? ⟨b,off+k*2+1,none⟩=some (.int .i64 v):=by rw [hv];exact (bel.cell (p:=⟨b,_,none⟩) hbl).trans c1
   have hki:(k:Int)<(n:Int):=by omega
   obtain ⟨V,hV⟩:∃ V,V=wr.alloc (.cells #[.int .i64 t,.int .i64 v] 34):=⟨_,rfl⟩
   have bV:Below wr.heap.size wr V:=by rw [hV];exact (Below.refl _ _).alloc (Nat.le_refl _) _
   have D0:V.heap[wr.heap.size]?=some (.cells #[.int .i64 t,.int .i64 v] 34 (0,0)):=by rw [hV];exact heap_alloc_new wr _
   obtain ⟨t0,t1,_,_⟩:=two_cells D0
   have PA:=hide (tadd_blk aBy t v V)
   unfold aBy at PA
   have HV:=hide hV
   have own0:=own_below own bV
   have tls0:=tls.below bV
   have bel0:=below_step bV bel
   clear ht hv c0 c1 hV bV own tls bel D0
   go_upto_region 5 with fail
   rw [← HV.out]
   go_wp2_with fail
   refine PA.out.mono ?_
   rintro e w2 ⟨S,rfl,hS,b2⟩
   have own2:=own_below own0 b2
   have tls2:=tls0.below b2
   have bel2:=below_step b2 bel0
   obtain ⟨U,hU⟩:∃ U,U=w2.alloc (.cells #[.int .i64 1,.int .i64 0,.int .i64 0,.slice (some ⟨S,0,none⟩) 1 1,.int .i64 t,.int .i64 v,.string ⟨#[]⟩] 36):=⟨_,rfl⟩
   have bU:Below w2.heap.size w2 U:=by rw [hU];exact (Below.refl _ _).alloc (Nat.le_refl _) _
   have ownU:=own_below own2 bU
   have tlsU:=tls2.below bU
   have belU:=below_step bU bel2
   have hSU:=below_block bU hS
   have HNB:Hid (∀ j u,[Value.int .i64 1,.int .i64 0,.int .i64 0,.slice (some ⟨S,0,none⟩) 1 1,.int .i64 t,.int .i64 v,.string ⟨#[]⟩][j]?=some u→U.cell? ((⟨w2.heap.size,0,none⟩:Addr).add j)=some u):=by
    refine seg_news ?_
    rw [hU]
    have:=seg_new w2 #[.int .i64 1,.int .i64 0,.int .i64 0,.slice (some ⟨S,0,none⟩) 1 1,.int .i64 t,.int .i64 v,.string ⟨#[]⟩] 36
    simpa using this
   have H1:Hid (∀ u∈[Value.int .i64 1,.int .i64 0,.int .i64 0,.slice (some ⟨S,0,none⟩) 1 1,.int .i64 t,.int .i64 v,.string ⟨#[]⟩],u.oneCell'=true):=by
    intro u hu
    simp only [List.mem_cons,List.not_mem_nil,or_false] at hu
    rcases hu with e | e | e | e | e | e | e <;> (subst e;rfl)
   have hs2:U.heap.size=w2.heap.size+1:=by rw [hU];simp
   have hws:w.heap.size≤U.heap.size:=belU.size
   have HU:=hide hU
   clear PA own0 tls0 bel0 own2 tls2 bel2 bU hU hS b2
   go_wp2_with (rw [← HU.out];at_builtin;refine wpList_append_lies _ rfl _ _ 22 rfl w.heap.size 36 i0 (.agg #[.int .i64 0,.int .i64 0,.int .i64 0,.slice none 0 0,.int .i64 0,.int .i64 0,.string ⟨#[]⟩]) 7 80 Tryz.underlying22 hi hz0 hz1 hz2 rfl (by decide) _ _ _ rfl ownU ⟨w2.heap.size,0,none⟩ 1 1 [.int .i64 1,.int .i64 0,.int .i64 0,.slice (some ⟨S,0,none⟩) 1 1,.int .i64 t,.int .i64 v,.string ⟨#[]⟩] rfl rfl HNB.out H1.out (by decide) (by unfold maxLen;omega) (by omega) hws (w2.heap.size+1) hs2 ?_)
   intro g' cp' wz ownZ grZ hatZ hltZ
   have own':wz.ownsRow w.heap.size 36 7 (.slice (some ⟨g',0,none⟩) (k+1) cp') (k+1) (dcells (ds++[⟨dAdd aBy t v,some ⟨S,0,none⟩,1⟩])):=by
    rw [dcells_append]
    exact ownZ
   have tls':Tls wz (ds++[⟨dAdd aBy t v,some ⟨S,0,none⟩,1⟩]):=by
    intro x hx
    rcases List.mem_append.1 hx with e | e
    ·exact tlsU.row ownU grZ (by decide) x e
    ·simp at e
     exact ⟨S,t,v,e,blk_beside ownU grZ hSU (by decide)⟩
   have HD':Hid (dns (ds++[⟨dAdd aBy t v,some ⟨S,0,none⟩,1⟩])=toldD (l.take (k+1))):=by
    show _=_
    rw [dns_append,HD.out,HT.out];rfl
   have belZ:Below w.heap.size w wz:=belU.grown grZ hws (fun j hj=>(own_base ownU j hj).1)
   clear ownU tlsU belU ownZ grZ hatZ hltZ HNB HD HT hSU
   go_wp2
   go_roundw
   case rel=>exact ⟨k+1,cp',_,_,by omega,by go_num,rfl,own',HD',tls',belZ⟩
   case measure=>simp [intOf];omega
  ·have he:k=n:=by omega
   subst he
   have hd:=HD.out
   rw [List.take_of_length_le (by rw [← HN.out];exact Nat.le_refl _)] at hd
   have FIN:=hide (And.intro own (And.intro hd (And.intro tls bel)))
   clear own HD hd tls bel
   go_wp2
   go_ret
   exact ⟨_,_,_,rfl,FIN.out.1,FIN.out.2.1,FIN.out.2.2.1,FIN.out.2.2.2⟩
theorem field_fault (x:Value) (z:Int) (w:World):(Instr.field 43 (.agg #[.int .i64 z,x]) 0).run Tryz.prog w=.ok (.int .i64 z) w:=by
 simp [Instr.field,go_sem,asAgg]
def smallB (l:List (Int×Int)):Bool:=decide ((Grain.wrong l).1=0∧l.length≤60∧(l.length=0∨(l.getD (l.length-1) (0,0)).1≤5000))
set_option maxRecDepth 20000 in
set_option maxHeartbeats 4000000 in
theorem tsmall_any (l:List (Int×Int)) (ao:Option Addr) (n cap:Nat) (w:World) (hs:Seg w ao (scells l)) (hn:n=l.length) (h63:n≤9223372036854775806) :
  Calls Tryz.prog 23 #[.slice ao n cap] w fun e w'=>e=.returned (.bool (smallB l))∧Below w.heap.size w w':=by
 obtain ⟨B,hB⟩:∃ B,B=smallB l:=⟨_,rfl⟩
 obtain ⟨E,hE⟩:∃ E,E=(Grain.wrong l).1:=⟨_,rfl⟩
 obtain ⟨F,hF⟩:∃ F,F=(Grain.wrong l).2:=⟨_,rfl⟩
 have P1:=hide (wrong_len l ao n cap w hs hn)
 rw [← hE,← hF] at P1
 rw [← hB]
 unfold smallB at hB
 rw [← hE,← hn] at hB
 have HB:=hide hB
 have HS:=hide hs
 have HN:=hide hn
 clear hB hE hF hs hn
 go_enter Tryz.func23,Tryz.ntmps23
 go_wp2_with fail
 refine P1.out.mono ?_
 rintro e w1 ⟨rfl,b1⟩
 clear P1
 have HFd:=fun (z:Int)=>field_fault (.int .i64 F) z w1
 by_cases h1:E=0
 ·by_cases h2:n≤60
  ·by_cases h3:n=0
   ·have hb:B=true:=by rw [HB.out];simp [h1,h3]
    subst h1 h3 hb
    go_wp2
    go_ret
    exact ⟨rfl,b1⟩
   ·have hl:n-1<l.length:=by rw [← HN.out];omega
    obtain ⟨b,off,rfl,hbl,c0,c1⟩:=seg_sample HS.out hl
    have eg:l.getD (n-1) (0,0)=l[n-1]:=by simp [List.getD,List.getElem?_eq_getElem hl]
    obtain ⟨t,ht⟩:∃ t,t=(l[n-1]).1:=⟨_,rfl⟩
    have k0:w1.cell? ⟨b,off+(n-1)*2,none⟩=some (.int .i64 t):=by rw [ht];exact (b1.cell (p:=⟨b,_,none⟩) hbl).trans c0
    have hb:B=decide (t≤5000):=by rw [HB.out,eg,← ht];simp [h1,h2,h3]
    have hn1:((n:Int)-1).toNat=n-1:=by omega
    have d2:decide ((n:Int)≤60)=true:=by simp;omega
    have d3:((n:Int) == 0)=false:=by simp;omega
    have hwr:wrap64 ((n:Int)-1)=((n-1:Nat):Int):=by unfold wrap64;omega
    subst h1
    clear HB eg ht c0 c1
    subst hb
    go_wp2
    all_goals (go_ret;exact ⟨by simp_all,b1⟩)
  ·have hb:B=false:=by rw [HB.out];simp [h2]
   have d2:decide ((n:Int)≤60)=false:=by simp;omega
   subst h1 hb
   go_wp2
   go_ret
   exact ⟨rfl,b1⟩
 ·have hb:B=false:=by rw [HB.out];simp [h1]
  have d1:(E == 0)=false:=by simpa using h1
  subst hb
  go_wp2
  go_ret
  exact ⟨rfl,b1⟩
open Go.RowKit Go.GrainU
theorem text_pure {l:List (Int×Int)} (h6:l.length≤60) (s:ByteArray) (time:Int):lastA (toldD l++[dAsk s time])=askB (playB b0 (toldD l)).1 s time:=by
 rw [lastA_snoc (by simp [toldD];omega)]
 rfl
theorem text_ok {l:List (Int×Int)} (hr:(Grain.wrong l).1=0) (h6:l.length≤60) {s:ByteArray} {time:Int} {e:Ex} (hp:prs s.data.toList=.ok e) :
  (lastA (toldD l++[dAsk s time])).err=(GrainU.ask (if l=[] then [] else [(srsA,l)]) e time).2∧(lastA (toldD l++[dAsk s time])).cs=(GrainU.ask (if l=[] then [] else [(srsA,l)]) e time).1∧Few8 (lastA (toldD l++[dAsk s time])).cs:=by
 have h:=told_full hr
 have hf:=h.few (by omega)
 have ha:askB (playB b0 (toldD l)).1 s time=anE (playB b0 (toldD l)).1 time e:=by unfold askB;rw [hp]
 have hw:=an_whole h.i hf h.w time e
 rw [h.ln] at hw
 rw [text_pure h6,ha]
 exact ⟨hw.1,hw.2,an_few h.i hf time e⟩
theorem text_no {l:List (Int×Int)} (h6:l.length≤60) {s:ByteArray} {time:Int} {f:Flt} (hp:prs s.data.toList=.error f) :
  (lastA (toldD l++[dAsk s time])).err=f.1∧(lastA (toldD l++[dAsk s time])).pos=((s.size-f.2:Nat):Int):=by
 rw [text_pure h6]
 unfold askB
 rw [hp]
 exact ⟨rfl,rfl⟩
set_option maxRecDepth 20000 in
set_option maxHeartbeats 8000000 in
theorem ttext_any (l:List (Int×Int)) (s:ByteArray) (time:Int) (ao:Option Addr) (n cap:Nat) (w:World) (hs:Seg w ao (scells l)) (hn:n=l.length) (hcap:n≤cap∧cap≤9223372036854775807) (hnil:ao=none→n=0∧cap=0) (hs63:s.size≤9223372036854775807) (_hT:Tab w) (hv:ErrV w) (h63:n≤9223372036854775806) :
  Calls Tryz.prog 12 #[.slice ao n cap,.string s,.int .i64 time] w fun e w'=>e=.returned (.bool true)∧Below w.heap.size w w':=by
 obtain ⟨i0,hi,hz0,hz1,hz2⟩:=sinfo_parts Tryz.infoDo
 have P0:=hide (talive_any w hv)
 have P1:=hide (fun (W:World) (hb:Below w.heap.size w W)=>tsmall_any l ao n cap W (hs.below hb) hn h63)
 have P2:=hide (fun (W:World) (hb:Below w.heap.size w W)=>parse_any s W hs63 (hv.below hb))
 have P3:=hide (fun (W:World) (hb:Below w.heap.size w W) (h:n≤60)=>ttold_any l ao n cap W (hs.below hb) hn (by omega))
 have HS:=hide hs
 have HN:=hide hn
 have HV:=hide hv
 have HC:=hide hcap
 have HNil:=hide hnil
 have H63:=hide hs63
 clear hs hn hv hcap hnil hs63
 go_enter Tryz.func12,Tryz.ntmps12
 go_wp2_with fail
 refine P0.out.mono ?_
 rintro e w1 ⟨rfl,b1⟩
 have P1':=hide (P1.out w1 b1)
 clear P0 P1
 obtain ⟨B,hB⟩:∃ B,B=smallB l:=⟨_,rfl⟩
 rw [← hB] at P1'
 go_wp2_with fail
 refine P1'.out.mono ?_
 rintro e w2 ⟨rfl,b2'⟩
 have b2:=below_step b2' b1
 clear P1' b1 b2'
 by_cases hBt:B=false
 ·subst hBt
  clear hB P2 P3
  go_wp2
  go_ret
  exact ⟨rfl,b2⟩
 ·have hBt':B=true:=by simpa using hBt
  subst hBt'
  clear hBt
  unfold smallB at hB
  have hsm:=of_decide_eq_true hB.symm
  obtain ⟨hr,h6,-⟩:=hsm
  have HR:=hide hr
  have h6n:n≤60:=by rw [HN.out];exact h6
  have H6:=hide h6
  have P2':=hide (P2.out w2 b2)
  clear hB hr h6 P2
  go_wp2_with fail
  refine P2'.out.mono ?_
  intro e w3 hh
  obtain ⟨hp,b3'⟩:=hh
  have b3:=below_step b3' b2
  obtain ⟨k0,k1,k2,wd,a1,n1,c1,a2,n2,c2,a3,n3,c3,f0,f1,rfl,HP⟩:∃ (k0 k1 k2:Int) (wd:ByteArray) (a1:Option Addr) (n1 c1:Nat) (a2:Option Addr) (n2 c2:Nat) (a3:Option Addr) (n3 c3:Nat) (f0 f1:Int),e=.returned (.tuple #[.agg #[.int .i64 k0,.int .i64 k1,.int .i64 k2,.string wd,.slice a1 n1 c1,.slice a2 n2 c2,.slice a3 n3 c3],.agg #[.int .i64 f0,.int .i64 f1]]) ∧
    Hid ((f0=0∧∃ t:ET,prs s.data.toList=.ok t.ex∧eval t=.agg #[.int .i64 k0,.int .i64 k1,.int .i64 k2,.string wd,.slice a1 n1 c1,.slice a2 n2 c2,.slice a3 n3 c3]∧t.In w3)∨(f0≠0∧∃ f:Flt,prs s.data.toList=.error f∧f0=f.1∧f1=((s.size-f.2:Nat):Int))):=by
   rcases hp with ⟨t,h1,h2,h3⟩ | ⟨f,h1,h2⟩
   ·refine ⟨_,_,_,_,_,_,_,_,_,_,_,_,_,0,0,?_,.inl ⟨rfl,t,h1,rfl,h3.whole⟩⟩
    rw [h2];rfl
   ·have hz:=nz_prs s.data.toList
    rw [h1] at hz
    exact ⟨0,0,0,⟨#[]⟩,none,0,0,none,0,0,none,0,0,f.1,_,h2,   .inr ⟨hz f rfl,f,h1,rfl,rfl⟩⟩
  obtain ⟨W3,hW3⟩:∃ W3,W3=(w3.alloc (.cells #[.int .i64 k0,.int .i64 k1,.int .i64 k2,.string wd,.slice a1 n1 c1,.slice a2 n2 c2,.slice a3 n3 c3] 41)).alloc (.cells #[.int .i64 f0,.int .i64 f1] 43):=⟨_,rfl⟩
  have bb3:Below w3.heap.size w3 W3:=by rw [hW3];exact ((Below.refl _ _).alloc (Nat.le_refl _) _).alloc (by simp) _
  have X3:W3.heap[w3.heap.size]?=some (.cells #[.int .i64 k0,.int .i64 k1,.int .i64 k2,.string wd,.slice a1 n1 c1,.slice a2 n2 c2,.slice a3 n3 c3] 41 (0,0)):=by rw [hW3,Below.heap_alloc _ _ _ (by simp)];exact heap_alloc_new w3 _
  have F3:W3.heap[w3.heap.size+1]?=some (.cells #[.int .i64 f0,.int .i64 f1] 43 (0,0)):=by
   have:=heap_alloc_new (w3.alloc (.cells #[.int .i64 k0,.int .i64 k1,.int .i64 k2,.string wd,.slice a1 n1 c1,.slice a2 n2 c2,.slice a3 n3 c3] 41)) (.cells #[.int .i64 f0,.int .i64 f1] 43)
   rw [hW3];simpa using this
  have bel3:=below_step bb3 b3
  have P3':=hide (P3.out W3 bel3 h6n)
  obtain ⟨X,hX⟩:∃ X,X=w3.heap.size:=⟨_,rfl⟩
  rw [← hX] at X3 F3
  have HW3:=hide hW3
  have HX:=hide hX
  have HB3:=hide bb3
  clear P2' hp b3' b3 b2 hW3 hX P3
  go_upto_region 6 with fail
  rw [← HW3.out,← HX.out]
  go_wp2_with fail
  refine P3'.out.mono ?_
  rintro e w4 ⟨go,d4,ds,rfl,own4,hds,tls4,b4⟩
  have bel4:=below_step b4 bel3
  have HDs:=hide hds
  clear P3' hds
  go_wp2_with fail
  refine (task_any s time w4).mono ?_
  rintro e w5 ⟨rfl,b5⟩
  have own5:=own_below own4 b5
  have tls5:=tls4.below b5
  have bel5:=below_step b5 bel4
  have b35:=below_step b5 b4
  obtain ⟨U,hU⟩:∃ U,U=w5.alloc (.cells #[.int .i64 4,.int .i64 0,.int .i64 time,.slice none 0 0,.int .i64 0,.int .i64 0,.string s] 36):=⟨_,rfl⟩
  have bU:Below w5.heap.size w5 U:=by rw [hU];exact (Below.refl _ _).alloc (Nat.le_refl _) _
  have ownU:=own_below own5 bU
  have tlsU:=tls5.below bU
  have b3U:=below_step bU b35
  have HNB:Hid (∀ j u,[Value.int .i64 4,.int .i64 0,.int .i64 time,.slice none 0 0,.int .i64 0,.int .i64 0,.string s][j]?=some u→U.cell? ((⟨w5.heap.size,0,none⟩:Addr).add j)=some u):=by
   refine seg_news ?_
   rw [hU]
   have:=seg_new w5 #[.int .i64 4,.int .i64 0,.int .i64 time,.slice none 0 0,.int .i64 0,.int .i64 0,.string s] 36
   simpa using this
  have H1:Hid (∀ u∈[Value.int .i64 4,.int .i64 0,.int .i64 time,.slice none 0 0,.int .i64 0,.int .i64 0,.string s],u.oneCell'=true):=by
   intro u hu
   simp only [List.mem_cons,List.not_mem_nil,or_false] at hu
   rcases hu with e | e | e | e | e | e | e <;> (subst e;rfl)
  have hs2:U.heap.size=w5.heap.size+1:=by rw [hU];simp
  have hws:W3.heap.size≤U.heap.size:=b3U.size
  have HU:=hide hU
  clear own4 tls4 b4 bel4 own5 tls5 bel5 b35 b5 hU bU
  go_wp2_with (rw [← HU.out];at_builtin;refine wpList_append_lies _ rfl _ _ 22 rfl W3.heap.size 36 i0 (.agg #[.int .i64 0,.int .i64 0,.int .i64 0,.slice none 0 0,.int .i64 0,.int .i64 0,.string ⟨#[]⟩]) 7 80 Tryz.underlying22 hi hz0 hz1 hz2 rfl (by decide) _ _ _ rfl ownU ⟨w5.heap.size,0,none⟩ 1 1 [.int .i64 4,.int .i64 0,.int .i64 time,.slice none 0 0,.int .i64 0,.int .i64 0,.string s] rfl rfl HNB.out H1.out (by decide) (by unfold maxLen;omega) (by omega) hws (w5.heap.size+1) hs2 ?_)
  intro g' cp' wz ownZ grZ hatZ hltZ
  have own':wz.ownsRow W3.heap.size 36 7 (.slice (some ⟨g',0,none⟩) (n+1) cp') (n+1) (dcells (ds++[⟨dAsk s time,none,0⟩])):=by
   rw [dcells_append]
   exact ownZ
  have tlsZ:=tlsU.row ownU grZ (by decide)
  have belZ:Below W3.heap.size W3 wz:=b3U.grown grZ hws (fun j hj=>(own_base ownU j hj).1)
  have hdl:ds.length=n:=by have:=ownU.1;rw [dcells_length] at this;omega
  have PL:=hide (last_any (ds++[⟨dAsk s time,none,0⟩]) (some ⟨g',0,none⟩) (n+1) cp' wz (own_seg' own') (fun x hx=>by
   rcases List.mem_append.1 hx with e | e
   ·exact tlsZ.din x e
   ·simp at e
    rw [e];exact din_none _ _ rfl H63.out) (by simp [hdl]) (HV.out.below (below_step belZ bel3)))
  have HDs2:Hid (dns (ds++[⟨dAsk s time,none,0⟩])=toldD l++[dAsk s time]):=by show _=_;rw [dns_append,HDs.out];rfl
  rw [HDs2.out] at PL
  clear ownU tlsU b3U ownZ grZ hatZ hltZ HNB own' tlsZ hdl HDs HDs2
  go_wp2_with fail
  refine PL.out.mono ?_
  rintro e w6 ⟨y,rfl,hy,hay,b6⟩
  have b36:=below_step b6 belZ
  obtain ⟨E,hE⟩:∃ E,E=y.a.err:=⟨_,rfl⟩
  obtain ⟨Ps,hPs⟩:∃ Ps,Ps=y.a.pos:=⟨_,rfl⟩
  obtain ⟨M,hM⟩:∃ M,M=y.cts.length:=⟨_,rfl⟩
  obtain ⟨co,hco⟩:∃ co,co=y.co:=⟨_,rfl⟩
  obtain ⟨yc,hyc⟩:∃ yc,yc=y.cap:=⟨_,rfl⟩
  obtain ⟨ct',hct⟩:∃ ct',ct'=y.a.cost:=⟨_,rfl⟩
  rw [← hE,← hPs,← hM,← hco,← hyc,← hct]
  obtain ⟨W7,hW7⟩:∃ W7,W7=w6.alloc (.cells #[.int .i64 E,.int .i64 Ps,.slice co M yc,.int .i64 ct'] 48):=⟨_,rfl⟩
  have b7:Below w6.heap.size w6 W7:=by rw [hW7];exact (Below.refl _ _).alloc (Nat.le_refl _) _
  have Y7:W7.heap[w6.heap.size]?=some (.cells #[.int .i64 E,.int .i64 Ps,.slice co M yc,.int .i64 ct'] 48 (0,0)):=by rw [hW7];exact heap_alloc_new w6 _
  have b37:=below_step b7 b36
  have X7:=below_block b37 X3
  have F7:=below_block b37 F3
  have hay7:=hay.below b7
  have bel7:=below_step b37 bel3
  have HW7:=hide hW7
  have HY:=hide hy
  have HAY:=hide hay7
  have HCo:=hide hco
  have HM:=hide hM
  have HE:=hide hE
  have HPs:=hide hPs
  clear PL belZ b6 b7 b36 hay hW7 X3 F3 hy hay7 hco hM hE hPs hyc hct
  obtain ⟨Y,hYw⟩:∃ Y,Y=w6.heap.size:=⟨_,rfl⟩
  rw [← hYw] at Y7
  have HYw:=hide hYw
  clear hYw
  go_upto_region 7 with fail
  rw [← HW7.out,← HYw.out]
  obtain ⟨y0,y1,y2,y3,-⟩:=four_cells Y7
  obtain ⟨g0,g1,-⟩:=two_cells F7
  obtain ⟨x0,x1,x2,x3,x4,x5,x6⟩:=seven_cells X7
  rcases HP.out with ⟨hf0,t,hpr,hev,hin⟩ | ⟨hf0,f,hpr,hff,hff1⟩
  ·subst hf0
   have hT:=text_ok HR.out H6.out (time:=time) hpr
   rw [← HY.out] at hT
   obtain ⟨hT1,hT2,hT3⟩:=hT
   rw [← HE.out] at hT1
   have HT1:=hide hT1
   have HT2:=hide hT2
   have HT3:=hide hT3
   have HIn:Hid (t.In W7):=ET.In.below (below_step b37 HB3.out) t hin
   have HEv:=hide hev
   clear HP hpr hev hin hT1 hT2 hT3
   go_upto_if 48 with fail
   go_cut [10] from 49 to 54 (fun v wx=>∃ (lo':Option Addr) (K C:Nat) (lts:List LT),v=.slice lo' K C∧K=lts.length∧Seg wx lo' (tcells lts)∧LnsIn wx lts∧lns lts=(if l=[] then [] else [(srsA,l)])∧Below W7.heap.size W7 wx)
   case first =>
    by_cases hn0:n=0
    ·have hl0:l=[]:=List.length_eq_zero_iff.1 (by rw [← HN.out];exact hn0)
     have FIN:Hid (Seg W7 none (tcells [])∧LnsIn W7 []∧lns []=(if l=[] then [] else [(srsA,l)])∧Below W7.heap.size W7 W7):=⟨.inl rfl,fun x hx=>(by cases hx),by rw [if_pos hl0];rfl,Below.refl _ _⟩
     subst hn0
     go_wp2_with fail
     go_meet
     exact ⟨none,0,0,[],rfl,rfl,FIN.out.1,FIN.out.2.1,FIN.out.2.2.1,FIN.out.2.2.2⟩
    ·have hl0:l≠[]:=fun h=>hn0 (by rw [HN.out,h];rfl)
     have hd:decide ((0:Int)<(n:Int))=true:=by simp;omega
     have hd2:0<n:=by omega
     obtain ⟨Z,hZ⟩:∃ Z,Z=(W7.alloc (.cells #[.string hostB,.string aBy] 88)).alloc (.cells #[.slice (some ⟨W7.heap.size,0,none⟩) 1 1,.slice ao n cap] 63):=⟨_,rfl⟩
     have bZ:Below W7.heap.size W7 Z:=by rw [hZ];exact ((Below.refl _ _).alloc (Nat.le_refl _) _).alloc (by simp) _
     have L7:Z.heap[W7.heap.size]?=some (.cells #[.string hostB,.string aBy] 88 (0,0)):=by rw [hZ,Below.heap_alloc _ _ _ (by simp)];exact heap_alloc_new W7 _
     have R7:Seg Z (some ⟨W7.heap.size+1,0,none⟩) [.slice (some ⟨W7.heap.size,0,none⟩) 1 1,.slice ao n cap]:=by
      have:=seg_new (W7.alloc (.cells #[.string hostB,.string aBy] 88)) #[.slice (some ⟨W7.heap.size,0,none⟩) 1 1,.slice ao n cap] 63
      rw [hZ];simpa using this
     have hdin:=din_blk (t:=0) (v:=0) L7 (show aBy.size≤_ by decide)
     have FIN:Hid (Seg Z (some ⟨W7.heap.size+1,0,none⟩) (tcells [⟨srsA,l,some ⟨W7.heap.size,0,none⟩,1,ao,cap⟩])∧LnsIn Z [⟨srsA,l,some ⟨W7.heap.size,0,none⟩,1,ao,cap⟩]∧lns [⟨srsA,l,some ⟨W7.heap.size,0,none⟩,1,ao,cap⟩]=(if l=[] then [] else [(srsA,l)])∧Below W7.heap.size W7 Z):=by
      refine ⟨?_,?_,by rw [if_neg hl0];rfl,bZ⟩
      ·show Seg Z _ [.slice (some ⟨W7.heap.size,0,none⟩) 1 1,.slice ao l.length cap]
       rw [← HN.out];exact R7
      ·intro x hx
       simp at hx
       subst hx
       refine ⟨hdin.seg,HS.out.below (below_step bZ bel7),hdin.fit,by show srsA.length≤_;decide,by show l.length≤_;rw [← HN.out];exact h63,fun h=>(by cases h),?_,?_⟩
       ·show l.length≤cap∧_;rw [← HN.out];exact HC.out
       ·show ao=none→l.length=0∧cap=0;rw [← HN.out];exact HNil.out
     have HZ:=hide hZ
     unfold hostB aBy at HZ
     clear hZ bZ L7 R7 hdin
     go_wp2_with fail
     go_meet
     rw [← HZ.out]
     exact ⟨_,1,1,_,rfl,rfl,FIN.out.1,FIN.out.2.1,FIN.out.2.2.1,FIN.out.2.2.2⟩
   case rest =>
    obtain ⟨lo',K,C,lts,rfl,hK,hseg,hlns,hlt,bc⟩:=hcut
    have PM:=hide (mask_any lts t time lo' K C wc hseg hlns (ET.In.below bc t HIn.out) hK)
    rw [hlt] at PM
    obtain ⟨R,hR⟩:∃ R,R=GrainU.ask (if l=[] then [] else [(srsA,l)]) t.ex time:=⟨_,rfl⟩
    have hT1:=HT1.out
    have hT2:=HT2.out
    rw [← hR] at hT1 hT2 PM
    have HT1':=hide hT1
    have HT2':=hide hT2
    rw [HEv.out] at PM
    have X8:=below_block bc X7
    have Y8:=below_block bc Y7
    have HAY8:=hide (HAY.out.below bc)
    obtain ⟨x0,x1,x2,x3,x4,x5,x6⟩:=seven_cells X8
    have bel8:=below_step bc bel7
    clear hseg hlns hlt hK bc hT1 hT2 HT1 HT2 HAY hR X7 Y7 F7
    go_wp2_with fail
    refine PM.out.mono ?_
    rintro e w9 ⟨cts,co9,N9,d9,rfl,hc9,hN9,hcs9,b9⟩
    obtain ⟨y0,y1,y2,y3,-⟩:=four_cells (below_block b9 Y8)
    have bel9:=below_step b9 bel8
    have hay9:=HAY8.out.below b9
    have hcl:cls y.cts=cls cts:=by rw [hay9.cs,HT2'.out,hc9]
    obtain ⟨q1,q2⟩:=few_cts hay9 HT3.out
    have PS:=hide (rsamec_any y.cts cts y.co co9 M N9 yc d9 w9 hay9.inn hcs9 HM.out hN9 hcl (fun c hc=>by have:=q2 c hc;omega) (by rw [HM.out];omega))
    rw [← HCo.out] at PS
    have hEE:(R.2 == R.2)=true:=by simp
    have hER:=HT1'.out
    subst hER
    clear PM X8 Y8 HAY8 hay9 hcs9 hcl q1 q2 hc9 hN9 HT1' HT2' HT3
    go_wp2_with fail
    refine PS.out.mono ?_
    rintro e w10 ⟨rfl,b10⟩
    have bel10:=below_step b10 bel9
    go_wp2
    go_ret
    exact ⟨rfl,bel10⟩
  ·have hT:=text_no H6.out (time:=time) hpr
   rw [← HY.out,← HE.out,← HPs.out,← hff,← hff1] at hT
   obtain ⟨hT1,hT2⟩:=hT
   subst hT1
   subst hT2
   have nf:(E == 0)=false:=by simpa using hf0
   have nf2:(E != 0)=true:=by simpa using hf0
   have e1:(E == E)=true:=by simp
   have e2:(Ps == Ps)=true:=by simp
   clear HP hpr hff hff1 hf0 HE HPs
   go_wp2
   go_ret
   exact ⟨rfl,bel7⟩
end Go.Proofs.YtoldmigappbjcaaGreatDoor
