import Derived.Below
import Derived.ChangeOld
import Derived.Deep.CutBlock
import Derived.Deep.CutRange
import Derived.Deep.RegionHeld3
import Derived.Deep.RegionLaw
import Derived.Deep.Slices
import Derived.OpenShut
import Derived.ProofKit
import Derived.SizedLaws
import Derived.Test.YtoldmigappbjcaaGreatDoorBaseExact01
import Derived.Test.YtoldmigappbjcaaGreatDoorBaseExact02
import Derived.Test.YtoldmigappbjcaaGreatDoorBaseExact03
import Derived.Test.YtoldmigappbjcaaGreatDoorBaseExact04
import Derived.Test.YtoldmigappbjcaaGreatDoorBaseExact05
import Derived.Test.YtoldmigappbjcaaGreatDoorBaseExact06
import Derived.Test.YtoldmigappbjcaaGreatDoorK05
import Derived.Test.YtoldmigappbjcaaGreatDoorK14
import Derived.Test.YtoldmigappbjcaaGreatDoorK16
import Derived.Test.YtoldmigappbjcaaGreatDoorK20
import Derived.Test.YtoldmigappbjcaaGreatDoorK26
import Derived.Test.YtoldmigappbjcaaGreatDoorK31
import Derived.Test.YtoldmigappbjcaaGreatDoorRows
namespace Go.Proofs.YtoldmigappbjcaaGreatDoor
open Go.RowKit Go.GrainU
theorem out_at {w:World} {lo n d:Nat} {oo:Option Addr} {ys:List AT} (h:OutS w lo (.slice oo n d) n ys) {k:Nat} (hk:k<n) :
  ∃ b off,oo=some ⟨b,off,none⟩∧b<w.heap.size∧∀ j,j<4→w.cell? ⟨b,off+k*4+j,none⟩=(ys.getD k at0).cells[j]?:=by
 have hl:=h.len
 have hal:=acells4_length ys
 rcases own_seg' h.own with h0 | ⟨b,off,h1,h2⟩
 ·rw [h0] at hal
  simp at hal
  omega
 ·have hc:∀ j,j<4→w.cell? ⟨b,off+k*4+j,none⟩=(ys.getD k at0).cells[j]?:=fun j hj=>by
   rw [show (ys.getD k at0).cells[j]?=(acells4 ys)[k*4+j]? from (acells4_at ys k j (by omega) hj).symm,Nat.add_assoc];exact h2 (k*4+j) (by omega)
  exact ⟨b,off,h1,World.block_lt_of_cell? w ⟨b,off+k*4+0,none⟩ (u:=.int .i64 (ys.getD k at0).a.err) (hc 0 (by omega)),hc⟩
end Go.Proofs.YtoldmigappbjcaaGreatDoor
namespace Go.GrainU
open Go.RowKit
theorem list7 {α:Type} {l:List α} (h:l.length=7):∃ a b c d e f g,l=[a,b,c,d,e,f,g]:=by
 match l,h with
 | [a,b,c,d,e,f,g],_=>exact ⟨a,b,c,d,e,f,g,rfl⟩
theorem weights_mem_all {H:Type} {P:Program} {e:TypeId} {l:List (DataW H)} {d:DataW H} (h:d∈l):∀ n∈d.weights P e,n∈DataW.weightsAll P e l:=by
 induction l with
 | nil=>cases h
 | cons a r ih =>
  intro n hn
  simp only [DataW.weightsAll,List.mem_append]
  rcases List.mem_cons.1 h with e | e
  ·rw [e] at hn;exact .inl hn
  ·exact .inr (ih e n hn)
end Go.GrainU
namespace Go.Proofs.YtoldmigappbjcaaGreatDoor
open Go.ChangeShapes Go.WideShapes Go.ChangeAt Go.RowKit Go.GrainU
theorem Tryz.laidOut:laidOutB Tryz.prog=true:=by kernel_rfl
theorem Tryz.cellsStr:Tryz.prog.cellsOf 9=1:=by kernel_rfl
theorem Tryz.cellsInt:Tryz.prog.cellsOf 3=1:=by kernel_rfl
theorem field_str {H:Type} {enc:TypeId×Value→H} {W:World} {n:Nat} {c:Value} {y:DataW H×List MemPlace} (h:DataW.trod enc Tryz.prog W 0 (fun _=>true) true n 9 [c]=some y) (hw:∀ k∈y.1.weights Tryz.prog 9,k≤reachBytes):∃ z:ByteArray,c=.string z∧z.size≤140737488355328:=by
 obtain ⟨z,hz,hy,_⟩:=DataW.trod_string Tryz.underlying9 h
 have:=hw z.data.toList.length (by rw [hy];exact List.mem_singleton.2 rfl)
 refine ⟨z,by simpa using hz,?_⟩
 have hr:reachBytes≤140737488355328:=by decide
 have e:z.size=z.data.toList.length:=by show z.data.size=_;exact Array.length_toList.symm
 omega
theorem field_i64 {H:Type} {enc:TypeId×Value→H} {W:World} {n:Nat} {c:Value} {y:DataW H×List MemPlace} (h:DataW.trod enc Tryz.prog W 0 (fun _=>true) true n 3 [c]=some y):∃ z,c=.int .i64 z:=by
 obtain ⟨z,hz,_,_⟩:=DataW.trod_int Tryz.underlying3 h
 exact ⟨z,by simpa using hz⟩
end Go.Proofs.YtoldmigappbjcaaGreatDoor
namespace Go.GrainU
open Go.RowKit
theorem lcells_flat (l:Lb):lcells l=l.flatMap fun x=>[.string x.1,.string x.2]:=by
 induction l with
 | nil=>rfl
 | cons x r ih=>simp [lcells,ih]
theorem list2 {α:Type} {l:List α} (h:l.length=2):∃ a b,l=[a,b]:=by
 match l,h with
 | [a,b],_=>exact ⟨a,b,rfl⟩
end Go.GrainU
namespace Go.Proofs.YtoldmigappbjcaaGreatDoor
open Go.ChangeShapes Go.WideShapes Go.ChangeAt Go.RowKit Go.GrainU
theorem Tryz.cellsLabel2:Tryz.prog.cellsOf 88=2:=by kernel_rfl
theorem Tryz.cellsSample2:Tryz.prog.cellsOf 34=2:=by kernel_rfl
theorem Tryz.cellsSeries:Tryz.prog.cellsOf 32=1:=by kernel_rfl
theorem Tryz.bytesLabel:Tryz.prog.bytesOf 88=32:=by kernel_rfl
theorem open_list2 {H:Type} {enc:TypeId×Value→H} {W:World} {α:Type} [Inhabited α] {fuel:Nat} {t e:TypeId} {cs:List Value} {x:DataW H×List MemPlace} (cell:α→List Value) (Q:α→Prop) (c:Nat) (hc:0<c) (hcl:∀ a,(cell a).length=c)
  (hcells:Tryz.prog.cellsOf e=c) (_hb:1≤Tryz.prog.bytesOf e) (ht:Tryz.prog.underlying t=some (.slice e)) (h:DataW.trod enc Tryz.prog W 0 (fun _=>true) true fuel t cs=some x) (hw:∀ n∈x.1.weights Tryz.prog t,n≤reachBytes)
  (each:∀ n cs' y,n<fuel→DataW.trod enc Tryz.prog W 0 (fun _=>true) true n e cs'=some y→(∀ k∈y.1.weights Tryz.prog e,k≤reachBytes)→∃ a,cs'=cell a∧Q a) :
  ∃ (l:List α) (ao:Option Addr) (cap:Nat),cs=[.slice ao l.length cap]∧Seg W ao (l.flatMap cell)∧(∀ a∈l,Q a)∧l.length≤cap∧l.length*Tryz.prog.bytesOf e≤reachBytes∧(ao=none→l.length=0∧cap=0)∧cap≤maxLen:=by
 rcases DataW.trod_slice ht h with ⟨hcs,_⟩ | ⟨a,len,cap,elems,rest,n,hn,hcs,hx,_,hl,hm,hlen,hel,hsp,hns⟩
 ·exact ⟨[],none,0,hcs,.inl rfl,fun a ha=>by (cases ha),Nat.le_refl _,by simp,fun _=>⟨rfl,rfl⟩,Nat.zero_le _⟩
 ·have hwt:∀ k,k∈(elems.length+rest.length)*Tryz.prog.bytesOf e::(DataW.weightsAll Tryz.prog e (elems.map (·.1))++DataW.weightsAll Tryz.prog e (rest.map (·.1)))→k≤reachBytes:=by
   intro k hk
   refine hw k ?_
   rw [hx]
   simp only [DataW.weights,ht]
   simpa using hk
  have hlb:len*Tryz.prog.bytesOf e≤reachBytes:=by
   have h1:=hwt _ (List.mem_cons_self ..)
   have h2:len*Tryz.prog.bytesOf e≤(elems.length+rest.length)*Tryz.prog.bytesOf e:=Nat.mul_le_mul_right _ (by omega)
   omega
  have ex:∀ i,i<len→∃ y:α,(∀ j,j<c→W.cell? (a.add (i*c+j))=(cell y)[j]?)∧Q y:=by
   intro i hi
   have h1:=hel i hi
   have hi':i<elems.length:=by omega
   rw [List.getElem?_eq_getElem hi',Option.bind_eq_some_iff] at h1
   obtain ⟨cs',h2,h3⟩:=h1
   rw [hcells] at h2
   obtain ⟨_,hlen',hcc⟩:=World.cells?_some h2
   obtain ⟨y,rfl,hq⟩:=each n cs' _ (by omega) h3 (fun k hk=>hwt k (List.mem_cons_of_mem _ (List.mem_append_left _ (weights_mem_all (List.mem_map_of_mem (List.getElem_mem hi')) k hk))))
   refine ⟨y,fun j hj=>?_,hq⟩
   have:=hcc j hj
   rw [Go.Deep.add_add] at this
   exact this
  obtain ⟨f,hf⟩:=Go.Deep.choose_lt ex
  refine ⟨(List.range len).map f,some a,cap,by simpa using hcs,?_,fun y hy=>?_,by simpa using hl,by simpa using hlb,fun h=>(by cases h),hm⟩
  ·rcases Nat.eq_zero_or_pos len with h0 | h0
   ·subst h0;exact .inl rfl
   ·obtain ⟨b,off,spot⟩:=a
    have hspot:spot=none:=by
     have h1:=(hf 0 h0).1 0 hc
     have h2:0<(cell (f 0)).length:=by rw [hcl];exact hc
     rw [List.getElem?_eq_getElem h2] at h1
     simp only [Nat.zero_mul,Nat.add_zero] at h1
     simpa [Addr.add] using World.cell?_spot h1
    subst hspot
    rw [List.flatMap_map]
    refine seg_of hc f cell hcl (fun i hi j hj=>?_)
    have:=(hf i hi).1 j hj
    rw [Go.WideShapes.add_plain] at this
    exact this
  ·obtain ⟨i,hi,rfl⟩:=List.mem_map.1 hy
   exact (hf i (by simpa using hi)).2
theorem open_lab {H:Type} {enc:TypeId×Value→H} {W:World} {n:Nat} {cs:List Value} {x:DataW H×List MemPlace}
  (h:DataW.trod enc Tryz.prog W 0 (fun _=>true) true n 88 cs=some x) (hw:∀ k∈x.1.weights Tryz.prog 88,k≤reachBytes):∃ k:ByteArray×ByteArray,cs=[.string k.1,.string k.2]∧k.1.size≤140737488355328∧k.2.size≤140737488355328:=by
 obtain ⟨xs,m,_,hx,hl,hlen,hf⟩:=DataW.trod_struct Tryz.underlying88 h
 rw [Tryz.cellsLabel2] at hl
 have hlen':xs.length=2:=hlen
 obtain ⟨c0,c1,rfl⟩:=list2 hl
 obtain ⟨x0,x1,rfl⟩:=list2 hlen'
 have g0:DataW.trod enc Tryz.prog W 0 (fun _=>true) true m 9 ((List.drop 0 [c0,c1]).take (Tryz.prog.cellsOf 9))=some x0:=hf 0 _ rfl
 have g1:DataW.trod enc Tryz.prog W 0 (fun _=>true) true m 9 ((List.drop 1 [c0,c1]).take (Tryz.prog.cellsOf 9))=some x1:=hf 1 _ rfl
 rw [Tryz.cellsStr] at g0 g1
 simp only [List.drop_zero,List.drop_succ_cons,List.take_succ_cons,List.take_zero] at g0 g1
 have hwe:∀ k,k∈DataW.weightsEach Tryz.prog [9,9] [x0.1,x1.1]→k≤reachBytes:=by
  intro k hk
  refine hw k ?_
  rw [hx]
  simp only [DataW.weights,Tryz.underlying88]
  exact hk
 obtain ⟨z0,rfl,s0⟩:=field_str g0 (fun k hk=>hwe k (DataW.weights_mem_each (j:=0) rfl rfl k hk))
 obtain ⟨z1,rfl,s1⟩:=field_str g1 (fun k hk=>hwe k (DataW.weights_mem_each (j:=1) rfl rfl k hk))
 exact ⟨⟨z0,z1⟩,rfl,s0,s1⟩
theorem open_smp {H:Type} {enc:TypeId×Value→H} {W:World} {n:Nat} {cs:List Value} {x:DataW H×List MemPlace}
  (h:DataW.trod enc Tryz.prog W 0 (fun _=>true) true n 34 cs=some x):∃ k:Int×Int,cs=[.int .i64 k.1,.int .i64 k.2]:=by
 obtain ⟨xs,m,_,hx,hl,hlen,hf⟩:=DataW.trod_struct Tryz.underlying34 h
 rw [Tryz.cellsSample2] at hl
 have hlen':xs.length=2:=hlen
 obtain ⟨c0,c1,rfl⟩:=list2 hl
 obtain ⟨x0,x1,rfl⟩:=list2 hlen'
 have g0:DataW.trod enc Tryz.prog W 0 (fun _=>true) true m 3 ((List.drop 0 [c0,c1]).take (Tryz.prog.cellsOf 3))=some x0:=hf 0 _ rfl
 have g1:DataW.trod enc Tryz.prog W 0 (fun _=>true) true m 3 ((List.drop 1 [c0,c1]).take (Tryz.prog.cellsOf 3))=some x1:=hf 1 _ rfl
 rw [Tryz.cellsInt] at g0 g1
 simp only [List.drop_zero,List.drop_succ_cons,List.take_succ_cons,List.take_zero] at g0 g1
 obtain ⟨z0,rfl⟩:=field_i64 g0
 obtain ⟨z1,rfl⟩:=field_i64 g1
 exact ⟨⟨z0,z1⟩,rfl⟩
end Go.Proofs.YtoldmigappbjcaaGreatDoor
namespace Go.GrainU
open Go.RowKit
theorem list6 {α:Type} {l:List α} (h:l.length=6):∃ a b c d e f,l=[a,b,c,d,e,f]:=by
 match l,h with
 | [a,b,c,d,e,f],_=>exact ⟨a,b,c,d,e,f,rfl⟩
end Go.GrainU
namespace Go.Proofs.YtoldmigappbjcaaGreatDoor
open Go.ChangeShapes Go.WideShapes Go.ChangeAt Go.RowKit Go.GrainU
theorem Tryz.cellsDo7:Tryz.prog.cellsOf 36=7:=by kernel_rfl
theorem Tryz.bytesDo:Tryz.prog.bytesOf 36=80:=by kernel_rfl
instance:Inhabited DT:=⟨⟨⟨0,0,0,[],0,0,⟨#[]⟩⟩,none,0⟩⟩
theorem dcells_flat (l:List DT):dcells l=l.flatMap DT.cells:=by
 induction l with
 | nil=>rfl
 | cons x r ih=>simp [dcells,ih]
theorem open_do {H:Type} {enc:TypeId×Value→H} {W:World} {n:Nat} {cs:List Value} {x:DataW H×List MemPlace}
  (h:DataW.trod enc Tryz.prog W 0 (fun _=>true) true n 36 cs=some x) (hw:∀ k∈x.1.weights Tryz.prog 36,k≤reachBytes):∃ k:DT,cs=k.cells∧DIn W k:=by
 obtain ⟨xs,m,_,hx,hl,hlen,hf⟩:=DataW.trod_struct Tryz.underlying36 h
 rw [Tryz.cellsDo7] at hl
 have hlen':xs.length=6:=hlen
 obtain ⟨c0,c1,c2,c3,c4,c5,c6,rfl⟩:=list7 hl
 obtain ⟨x0,x1,x2,x3,x4,x5,rfl⟩:=list6 hlen'
 have g0:DataW.trod enc Tryz.prog W 0 (fun _=>true) true m 3 ((List.drop 0 [c0,c1,c2,c3,c4,c5,c6]).take (Tryz.prog.cellsOf 3))=some x0:=hf 0 _ rfl
 have g1:DataW.trod enc Tryz.prog W 0 (fun _=>true) true m 3 ((List.drop 1 [c0,c1,c2,c3,c4,c5,c6]).take (Tryz.prog.cellsOf 3))=some x1:=hf 1 _ rfl
 have g2:DataW.trod enc Tryz.prog W 0 (fun _=>true) true m 3 ((List.drop 2 [c0,c1,c2,c3,c4,c5,c6]).take (Tryz.prog.cellsOf 3))=some x2:=hf 2 _ rfl
 have g3:DataW.trod enc Tryz.prog W 0 (fun _=>true) true m 32 ((List.drop 3 [c0,c1,c2,c3,c4,c5,c6]).take (Tryz.prog.cellsOf 32))=some x3:=hf 3 _ rfl
 have g4:DataW.trod enc Tryz.prog W 0 (fun _=>true) true m 34 ((List.drop 4 [c0,c1,c2,c3,c4,c5,c6]).take (Tryz.prog.cellsOf 34))=some x4:=hf 4 _ rfl
 have g5:DataW.trod enc Tryz.prog W 0 (fun _=>true) true m 9 ((List.drop 6 [c0,c1,c2,c3,c4,c5,c6]).take (Tryz.prog.cellsOf 9))=some x5:=hf 5 _ rfl
 rw [Tryz.cellsInt] at g0 g1 g2
 rw [Tryz.cellsSeries] at g3
 rw [Tryz.cellsSample2] at g4
 rw [Tryz.cellsStr] at g5
 simp only [List.drop_zero,List.drop_succ_cons,List.take_succ_cons,List.take_zero] at g0 g1 g2 g3 g4 g5
 have hwe:∀ k,k∈DataW.weightsEach Tryz.prog [3,3,3,32,34,9] [x0.1,x1.1,x2.1,x3.1,x4.1,x5.1]→k≤reachBytes:=by
  intro k hk
  refine hw k ?_
  rw [hx]
  simp only [DataW.weights,Tryz.underlying36]
  exact hk
 obtain ⟨z0,rfl⟩:=field_i64 g0
 obtain ⟨z1,rfl⟩:=field_i64 g1
 obtain ⟨z2,rfl⟩:=field_i64 g2
 obtain ⟨ls,sa,sc,e0,sg0,q0,l0,b0,n0,m0⟩:=open_list2 (α:=ByteArray×ByteArray) (fun x=>[.string x.1,.string x.2]) (fun k=>k.1.size≤140737488355328∧k.2.size≤140737488355328) 2 (by decide) (fun _=>rfl) Tryz.cellsLabel2 (by rw [Tryz.bytesLabel];decide) Tryz.underlying32 g3 (fun k hk=>hwe k (DataW.weights_mem_each (j:=3) rfl rfl k hk)) (fun n cs' y _ hy hwy=>open_lab hy hwy)
 obtain ⟨zs,hzs⟩:=open_smp g4
 obtain ⟨z5,rfl,s5⟩:=field_str g5 (fun k hk=>hwe k (DataW.weights_mem_each (j:=5) rfl rfl k hk))
 rw [← lcells_flat] at sg0
 simp at e0 hzs
 subst e0
 obtain ⟨rfl,rfl⟩:=hzs
 refine ⟨⟨⟨z0,z1,z2,ls,zs.1,zs.2,z5⟩,sa,sc⟩,rfl,⟨sg0,?_,n0,by show z5.size≤_;omega⟩⟩
 intro k hk
 have hk':k<ls.length:=hk
 have e:lk ls k=(ls[k]).1∧lv ls k=(ls[k]).2:=by simp [lk,lv,List.getD,List.getElem?_eq_getElem hk']
 have:=q0 _ (List.getElem_mem hk')
 show (lk ls k).size≤_∧(lv ls k).size≤_
 rw [e.1,e.2]
 omega
open Go.ChangeShapes Go.WideShapes Go.ChangeAt Go.RowKit Go.GrainU
theorem open_dosc {H:Type} {enc:TypeId×Value→H} {W:World} {fuel:Nat} {cs:List Value} {x:DataW H×List MemPlace}
  (h:DataW.trod enc Tryz.prog W 0 (fun _=>true) true fuel 22 cs=some x) (hw:∀ k∈x.1.weights Tryz.prog 22,k≤reachBytes) :
  ∃ (l:List DT) (ao:Option Addr) (cap:Nat),cs=[.slice ao l.length cap]∧Seg W ao (dcells l)∧(∀ x∈l,DIn W x)∧l.length≤cap:=by
 obtain ⟨l,ao,cap,e,sg,q,hc,_,_,_⟩:=open_list2 (α:=DT) DT.cells (fun x=>DIn W x) 7 (by decide) (fun _=>rfl) Tryz.cellsDo7 (by rw [Tryz.bytesDo];decide) Tryz.underlying22 h hw (fun n cs' y _ hy hwy=>open_do hy hwy)
 rw [← dcells_flat] at sg
 exact ⟨l,ao,cap,e,sg,q,hc⟩
end Go.Proofs.YtoldmigappbjcaaGreatDoor
namespace Go.GrainU
open Go.RowKit
theorem lpos_eq {s:Lb}:∀ {o:List Ln} {j:Nat},(∀ i,i<j→cmpS (lser o i) s<0)→j≤o.length→(j=o.length∨¬ cmpS (lser o j) s<0)→lpos o s=j
 | [],j,_,hj,_=>by
  have:j=0:=by simpa using hj
  subst this;rfl
 | x::r,0,_,_,h2=>by
  have h3:¬ cmpS x.1 s<0:=by
   rcases h2 with h | h
   ·simp at h
   ·simpa [lser] using h
  simp [lpos,h3]
 | x::r,j+1,h1,hj,h2=>by
  have h3:cmpS x.1 s<0:=by simpa [lser] using h1 0 (by omega)
  have ih:=lpos_eq (s:=s) (o:=r) (j:=j) (fun i hi=>by simpa [lser] using h1 (i+1) (by omega)) (by simpa using hj) (by
   rcases h2 with h | h
   ·left;simpa using h
   ·right;simpa [lser] using h)
  unfold lpos at ih ⊢
  simp only [List.takeWhile_cons,h3,decide_true,if_true,List.length_cons,ih]
theorem tell_in {a b:List Ln} {s:Lb} {A:List (Int×Int)} {x:Int×Int} (hl:lpos (a++[(s,A)]++b) s=a.length):tellP (a++[(s,A)]++b) s x=a++[(s,A++[x])]++b:=by
 have hh:lhas (a++[(s,A)]++b) s=true:=by
  unfold lhas
  rw [hl]
  simp [lnn,List.getD,cmpS_self]
 unfold tellP
 rw [if_pos hh,hl]
 simp [lnn,List.getD]
theorem tell_new {a b:List Ln} {s:Lb} {x:Int×Int} (hl:lpos (a++b) s=a.length) (hn:b=[]∨cmpS (lser b 0) s≠0):tellP (a++b) s x=a++[(s,[x])]++b:=by
 have hh:¬ lhas (a++b) s=true:=by
  unfold lhas
  rw [hl]
  rcases hn with h | h
  ·subst h;simp
  ·intro hc
   simp only [Bool.and_eq_true,decide_eq_true_eq] at hc
   apply h
   have:=hc.2
   rw [show (lnn (a++b) a.length).1=lser b 0 from by simp [lnn,lser,List.getD,List.getElem?_append_right (Nat.le_refl a.length)]] at this
   exact this
 unfold tellP
 rw [if_neg hh,hl]
 simp
end Go.GrainU
namespace Go.Proofs.YtoldmigappbjcaaGreatDoor
open Go.RowKit Go.GrainU
def lblk (x:LT):Option Nat:=(Value.slice x.pa x.smp.length x.pc).ownBlock
def Apart (x y:LT):Prop:=∀ g,lblk x=some g→lblk y≠some g
theorem Apart.symm {x y:LT} (h:Apart x y):Apart y x:=fun g h1 h2=>h g h2 h1
theorem apart_mid {a b:List LT} {y:LT} (h:(a++b).Pairwise Apart) (hy:∀ x∈a++b,Apart x y):(a++[y]++b).Pairwise Apart:=by
 rw [List.pairwise_append] at h
 rw [List.append_assoc,List.pairwise_append]
 refine ⟨h.1,?_,?_⟩
 ·rw [List.singleton_append,List.pairwise_cons]
  exact ⟨fun x hx=>(hy x (List.mem_append_right _ hx)).symm,h.2.1⟩
 ·intro x hx z hz
  rw [List.singleton_append] at hz
  rcases List.mem_cons.1 hz with e | e
  ·rw [e];exact hy x (List.mem_append_left _ hx)
  ·exact h.2.2 x hx z e
theorem apart_drop {a b:List LT} {y:LT} (h:(a++[y]++b).Pairwise Apart):(a++b).Pairwise Apart∧∀ x∈a++b,Apart x y:=by
 rw [List.append_assoc,List.pairwise_append,List.singleton_append,List.pairwise_cons] at h
 obtain ⟨h1,⟨h2,h3⟩,h4⟩:=h
 refine ⟨List.pairwise_append.2 ⟨h1,h3,fun x hx z hz=>h4 x hx z (List.mem_cons_of_mem _ hz)⟩,fun x hx=>?_⟩
 rcases List.mem_append.1 hx with e | e
 ·exact h4 x e y (List.mem_cons_self ..)
 ·exact (h2 x e).symm
structure LOwn (w:World) (lo:Nat) (l:List DT) (m:Nat) (x:LT):Prop where
 own:w.ownsRow lo 34 2 (.slice x.pa x.smp.length x.pc) x.smp.length (scells x.smp)
 src:∃ d∈l,x.ser=d.d.se∧x.sa=d.sa∧x.sc=d.sc
 few:x.smp.length≤m
structure TIn (w:World) (lo:Nat) (l:List DT) (m:Nat) (ls:List LT):Prop where
 ln:∀ x∈ls,LOwn w lo l m x
 dis:ls.Pairwise Apart
theorem LOwn.below {w w':World} {lo m:Nat} {l:List DT} {x:LT} (h:LOwn w lo l m x) (hb:Below w.heap.size w w'):LOwn w' lo l m x:=⟨own_below h.own hb,h.src,h.few⟩
theorem LOwn.mono {w:World} {lo m m':Nat} {l:List DT} {x:LT} (h:LOwn w lo l m x) (hm:m≤m'):LOwn w lo l m' x:=⟨h.own,h.src,Nat.le_trans h.few hm⟩
theorem LOwn.grow {w w':World} {lo m:Nat} {l:List DT} {x:LT} {r:Option Nat} (h:LOwn w lo l m x) (hg:w.grownBy w' r) (hne:∀ g,lblk x=some g→r≠some g):LOwn w' lo l m x:=⟨own_beside h.own hg hne,h.src,h.few⟩
theorem LOwn.row {w w':World} {lo m lo' e' size' n':Nat} {l:List DT} {x:LT} {v':Value} {xs':List Value} (h:LOwn w lo l m x) (ho:w.ownsRow lo' e' size' v' n' xs') (hg:w.grownBy w' v'.ownBlock) (hne:34≠e'):LOwn w' lo l m x:=⟨own_two h.own ho hg hne,h.src,h.few⟩
theorem TIn.below {w w':World} {lo m:Nat} {l:List DT} {ls:List LT} (h:TIn w lo l m ls) (hb:Below w.heap.size w w'):TIn w' lo l m ls:=⟨fun x hx=>(h.ln x hx).below hb,h.dis⟩
theorem TIn.mono {w:World} {lo m m':Nat} {l:List DT} {ls:List LT} (h:TIn w lo l m ls) (hm:m≤m'):TIn w lo l m' ls:=⟨fun x hx=>(h.ln x hx).mono hm,h.dis⟩
theorem tcells_length' (l:List LT):(tcells l).length=l.length*2:=by
 induction l with
 | nil=>rfl
 | cons x r ih=>simp [tcells,ih];omega
theorem tcells_append' (a b:List LT):tcells (a++b)=tcells a++tcells b:=by
 induction a with
 | nil=>rfl
 | cons x r ih=>simp [tcells,ih]
theorem lns_append' (a b:List LT):lns (a++b)=lns a++lns b:=by simp [lns]
theorem tcells_mid (a b:List LT) (x:LT):(tcells (a++[x]++b))[a.length*2]?=some (.slice x.sa x.ser.length x.sc)∧(tcells (a++[x]++b))[a.length*2+1]?=some (.slice x.pa x.smp.length x.pc):=by
 have e:tcells (a++[x]++b)=tcells a++(.slice x.sa x.ser.length x.sc::.slice x.pa x.smp.length x.pc::tcells b):=by
  rw [List.append_assoc,tcells_append'];rfl
 rw [e]
 have hl:=tcells_length' a
 constructor
 ·rw [List.getElem?_append_right (by omega),hl,Nat.sub_self];rfl
 ·rw [List.getElem?_append_right (by omega),hl,show a.length*2+1-a.length*2=1 from by omega];rfl
end Go.Proofs.YtoldmigappbjcaaGreatDoor
namespace Go.GrainU
open Go.RowKit
theorem seg_grown3 {w w':World} {r:Option Nat} {ao:Option Addr} {xs:List Value} (h:Seg w ao xs) (hg:w.grownBy w' r) (hne:∀ b off,ao=some ⟨b,off,none⟩→r≠some b):Seg w' ao xs:=by
 rcases h with h | ⟨b,off,rfl,hc⟩
 ·exact .inl h
 ·refine .inr ⟨b,off,rfl,fun j hj=>?_⟩
  have hl:b<w.heap.size:=Seg.block_lt hc (fun e=>by rw [e] at hj;simp at hj)
  have hb:=hg.block b hl (fun e=>hne b off rfl e.symm)
  rw [← hc j hj]
  simp [World.cell?,hb]
theorem cutP_none {oo:Option Addr} {d j s:Nat} (h:cutP oo d j s=none):oo=none:=by
 unfold cutP at h
 cases oo with
 | none=>rfl
 | some a =>
  split at h
  ·cases h
  ·simp at h
end Go.GrainU
namespace Go.Proofs.YtoldmigappbjcaaGreatDoor
open Go.RowKit Go.GrainU
theorem tcells_td (l:List LT):∀ p1 p2,((tcells l).take (p2*2)).drop (p1*2)=tcells ((l.take p2).drop p1):=by
 have ht:∀ (l:List LT) p,(tcells l).take (p*2)=tcells (l.take p):=by
  intro l
  induction l with
  | nil=>intro p;simp [tcells]
  | cons x r ih =>
   intro p
   cases p with
   | zero=>simp [tcells]
   | succ p=>rw [show (p+1)*2=p*2+1+1 from by omega];simp [tcells,ih p]
 have hd:∀ (l:List LT) p,(tcells l).drop (p*2)=tcells (l.drop p):=by
  intro l
  induction l with
  | nil=>intro p;simp [tcells]
  | cons x r ih =>
   intro p
   cases p with
   | zero=>simp [tcells]
   | succ p=>rw [show (p+1)*2=p*2+1+1 from by omega];simp [tcells,ih p]
 intro p1 p2
 rw [ht,hd]
theorem tcells_one (l:List LT):∀ u∈tcells l,u.oneCell'=true:=by
 induction l with
 | nil=>intro u hu;cases hu
 | cons x r ih =>
  intro u hu
  simp only [tcells,List.mem_cons] at hu
  rcases hu with e | e | e
  ·subst e;rfl
  ·subst e;rfl
  ·exact ih u e
theorem slc_to {oo:Option Addr} {N d j:Nat} (hj:j≤N) (hN:N≤d):∀ w,Sem.run Tryz.prog (Instr.slice 51 (.slice oo N d) none (some (.int .i64 (j:Int))) none) w=.ok (.slice (cutP oo d 0 2) j d) w:=by
 intro w
 rw [run_slice_h (P:=Tryz.prog) (t:=51) (ht:=by kernel_rfl) (a:=oo) (len:=N) (cap:=d) (kh:=.i64) (h:=(j:Int)) (h0:=by omega) (h2:=by omega)]
 simp [sliced,cutP,go_sem]
theorem slc_from {oo:Option Addr} {N d j:Nat} (hj:j≤N):∀ w,Sem.run Tryz.prog (Instr.slice 51 (.slice oo N d) (some (.int .i64 (j:Int))) none none) w=.ok (.slice (cutP oo d j 2) (N-j) (d-j)) w:=by
 intro w
 rw [run_slice_l (P:=Tryz.prog) (t:=51) (ht:=by kernel_rfl) (a:=oo) (len:=N) (cap:=d) (kl:=.i64) (l:=(j:Int)) (h0:=by omega) (h1:=by omega)]
 simp [sliced,cutP,go_sem]
theorem lser_lns {ls:List LT} {k:Nat} (h:k<ls.length):lser (lns ls) k=(lt ls k).ser:=by
 simp [lser,lns,lt,List.getD,h,LT.ln]
theorem tin_put {X B wa:World} {lo k g N Dp pc:Nat} {pa:Option Addr} {l:List DT} {a b:List LT} {x:LT} {t v:Int}
  (row:X.ownsRow lo 63 2 (.slice (some ⟨g,0,none⟩) N Dp) N (tcells (a++[x]++b))) (tin:TIn X lo l k (a++[x]++b)) (bB:Below X.heap.size X B)
  (owna:wa.ownsRow lo 34 2 (.slice pa (x.smp.length+1) pc) (x.smp.length+1) (scells (x.smp++[(t,v)]))) (gra:B.grownBy wa (Value.slice x.pa x.smp.length x.pc).ownBlock)
  (hat:(Value.slice pa (x.smp.length+1) pc).ownBlock=(Value.slice x.pa x.smp.length x.pc).ownBlock∨(Value.slice pa (x.smp.length+1) pc).ownBlock=some B.heap.size) (hlo:lo≤X.heap.size) :
  (wa.setCell ⟨g,a.length*2+1,none⟩ (.slice pa (x.smp.length+1) pc)).ownsRow lo 63 2 (.slice (some ⟨g,0,none⟩) N Dp) N (tcells (a++[⟨x.ser,x.smp++[(t,v)],x.sa,x.sc,pa,pc⟩]++b)) ∧
  TIn (wa.setCell ⟨g,a.length*2+1,none⟩ (.slice pa (x.smp.length+1) pc)) lo l (k+1) (a++[⟨x.ser,x.smp++[(t,v)],x.sa,x.sc,pa,pc⟩]++b)∧Below lo X (wa.setCell ⟨g,a.length*2+1,none⟩ (.slice pa (x.smp.length+1) pc)):=by
 obtain ⟨ap,hap⟩:=apart_drop tin.dis
 have hx:=tin.ln x (by simp)
 have xB:=hx.below bB
 have rowB:=own_below row bB
 have rowa:=own_two rowB xB.own gra (by decide)
 have hg:wa.grownBy (wa.setCell ⟨g,a.length*2+1,none⟩ (.slice pa (x.smp.length+1) pc)) (Value.slice (some ⟨g,0,none⟩) N Dp).ownBlock:=grown_set
 have hlen:(Value.slice pa (x.smp.length+1) pc)=.slice pa (x.smp++[(t,v)]).length pc:=by simp
 refine ⟨?_,⟨?_,?_⟩,?_⟩
 ·have h1:=own_set rowa (a.length*2+1) (.slice pa (x.smp.length+1) pc)
  have e:(tcells (a++[x]++b)).set (a.length*2+1) (.slice pa (x.smp.length+1) pc)=tcells (a++[⟨x.ser,x.smp++[(t,v)],x.sa,x.sc,pa,pc⟩]++b):=by
   rw [List.append_assoc,List.append_assoc,tcells_append',tcells_append',List.set_append_right _ _ (by rw [tcells_length'];omega),tcells_length',show a.length*2+1-a.length*2=1 from by omega]
   simp [tcells,tcells_append']
  rw [← e]
  exact h1
 ·intro y hy
  have hy':y∈a++b∨y=⟨x.ser,x.smp++[(t,v)],x.sa,x.sc,pa,pc⟩:=by
   rcases List.mem_append.1 hy with e | e
   ·rcases List.mem_append.1 e with e | e
    ·exact .inl (List.mem_append_left _ e)
    ·exact .inr (by simpa using e)
   ·exact .inl (List.mem_append_right _ e)
  rcases hy' with e | e
  ·have hym:y∈a++[x]++b:=by
    rcases List.mem_append.1 e with e | e
    ·exact List.mem_append_left _ (List.mem_append_left _ e)
    ·exact List.mem_append_right _ e
   have hyB:=(tin.ln y hym).below bB
   have hya:=hyB.grow gra (fun q h1 h2=>hap y e q h1 h2)
   exact (hya.row rowa hg (by decide)).mono (by omega)
  ·rw [e]
   refine ⟨?_,hx.src,?_⟩
   ·have:=own_two owna rowa hg (by decide)
    simpa using this
   ·have:=hx.few
    simp;omega
 ·refine apart_mid ap (fun y hy q h1 h2=>?_)
  have hym:y∈a++[x]++b:=by
   rcases List.mem_append.1 hy with e | e
   ·exact List.mem_append_left _ (List.mem_append_left _ e)
   ·exact List.mem_append_right _ e
  have h3:(Value.slice pa (x.smp.length+1) pc).ownBlock=some q:=by rw [hlen];exact h2
  rcases hat with h | h
  ·rw [h] at h3;exact hap y hy q h1 h3
  ·rw [h] at h3
   injection h3 with h3
   have:=(own_base (tin.ln y hym).own q h1).2
   have:=bB.size
   omega
 ·have b1:Below lo X B:=bB.mono hlo
  have b2:Below lo X wa:=b1.grown gra (Nat.le_trans hlo bB.size) (fun j hj=>(own_base hx.own j hj).1)
  exact b2.setCell (own_block row).1 _
open Go.RowKit Go.GrainU
theorem Tryz.infoLine2:(Tryz.prog.info? 63).map (fun i=>(i.zero,i.size,i.bytes))=some (some (.agg #[.slice none 0 0,.slice none 0 0]),2,48):=by kernel_rfl
theorem Tryz.infoSmp2:(Tryz.prog.info? 34).map (fun i=>(i.zero,i.size,i.bytes))=some (some (.agg #[.int .i64 0,.int .i64 0]),2,16):=by kernel_rfl
structure TMid (X:World) (lo:Nat) (l:List DT) (k:Nat) (ls:List LT) (se:Lb) (tv:Int×Int) (v:Value) (jj:Nat):Prop where
 mid:∃ (g N Dp:Nat) (a b:List LT) (x:LT),v=.slice (some ⟨g,0,none⟩) N Dp∧X.ownsRow lo 63 2 v N (tcells (a++[x]++b))∧a.length=jj∧TIn X lo l k (a++[x]++b)∧tellP (lns ls) se tv=lns a++[(x.ser,x.smp++[tv])]++lns b∧N≤k+1∧∀ y∈a++[x]++b,y.ser.length≤4
theorem own_some {w:World} {base e size n c:Nat} {ao:Option Addr} {xs:List Value} (h:w.ownsRow base e size (.slice ao n c) n xs) (hn:0<n):∃ g,ao=some ⟨g,0,none⟩:=by
 rcases h.2 with ⟨hv,_⟩ | ⟨g,cap,cur,hv,_⟩
 ·injection hv with h1 h2 h3
  omega
 ·injection hv with h1 h2 h3
  exact ⟨g,h1⟩
theorem own_slot {w:World} {base e size n cap g i:Nat} {xs:List Value} (h:w.ownsRow base e size (.slice (some ⟨g,0,none⟩) n cap) n xs) (hi:i<xs.length):w.cell? ⟨g,i,none⟩=xs[i]?∧w.frozen? ⟨g,i,none⟩=false:=by
 constructor
 ·rcases own_seg h with h0 | ⟨b,off,h1,h2⟩
  ·rw [h0] at hi;simp at hi
  ·injection h1 with h1
   injection h1 with h3 h4 _
   subst h3
   subst h4
   have:=h2 i hi
   simpa using this
 ·rcases h.2 with ⟨hv,_⟩ | ⟨g',cap',cur,hv,_,hgb,_⟩
  ·injection hv with h1;cases h1
  ·injection hv with h1
   injection h1 with h1
   injection h1 with h1
   subst h1
   simp [World.frozen?,hgb]
theorem lns_mid (a b:List LT) (x:LT):lns (a++[x]++b)=lns a++[(x.ser,x.smp)]++lns b:=by
 rw [lns_append',lns_append'];rfl
theorem ls_mid {ls:List LT} {j:Nat} (h:j<ls.length):ls.take j++[lt ls j]++ls.drop (j+1)=ls:=by
 have e:lt ls j=ls[j]:=by simp [lt,List.getD,List.getElem?_eq_getElem h]
 rw [e,List.append_assoc,List.singleton_append,List.getElem_cons_drop,List.take_append_drop]
set_option maxRecDepth 20000 in
set_option maxHeartbeats 8000000 in
theorem told_any (l:List DT) (ys:List AT) (A:List An) (ao oo:Option Addr) (n cap M cap2 lo2:Nat) (w:World) (hs:Seg w ao (dcells l)) (hd:∀ x∈l,DIn w x) (hn:n=l.length) (hout:OutS w lo2 (.slice oo M cap2) M ys) (hA:ys.map (fun y=>y.a)=A) (hnM:n≤M) (h120:n≤120) (h4:∀ k,k<n→(dtt l k).d.kind=1→(ys.getD k at0).a.err=0→(dtt l k).d.se.length≤4) :
  Calls Tryz.prog 17 #[.slice ao n cap,.slice oo M cap2] w fun e w'=>∃ (to':Option Addr) (N d:Nat) (ls:List LT),e=.returned (.slice to' N d)∧w'.ownsRow w.heap.size 63 2 (.slice to' N d) N (tcells ls)∧TIn w' w.heap.size l n ls∧lns ls=toldP [] (dns l) (A.take n)∧Below w.heap.size w w':=by
 obtain ⟨i0,hi,hz0,hz1,hz2⟩:=sinfo_parts Tryz.infoLine2
 obtain ⟨i1,hj,hy0,hy1,hy2⟩:=sinfo_parts Tryz.infoSmp2
 have HS:=hide hs
 have HD:=hide hd
 have HN:=hide hn
 have HOut:=hide hout
 have HA:=hide hA
 have H4:=hide h4
 clear hs hd hn hout hA h4
 go_enter Tryz.func17,Tryz.ntmps17
 go_wp2
 go_loopw [5,11] (fun out i wr=>∃ (k N d:Nat) (oo':Option Addr) (ls:List LT),k≤n∧i=.int .i64 k∧out=.slice oo' N d∧N≤k∧wr.ownsRow w.heap.size 63 2 (.slice oo' N d) N (tcells ls)∧TIn wr w.heap.size l k ls∧Hid (lns ls=toldP [] (dns (l.take k)) (A.take k))∧Hid (∀ x∈ls,x.ser.length≤4)∧Below w.heap.size w wr) (fun _ i _=>n-(intOf i).toNat)
 case atStart=>exact ⟨0,0,0,none,[],Nat.zero_le _,rfl,rfl,Nat.le_refl _,by simpa [tcells] using World.ownsRow_nil _ _ _ _,⟨fun x hx=>(by cases hx),List.Pairwise.nil⟩,rfl,fun x hx=>(by cases hx),Below.refl _ _⟩
 case round =>
  obtain ⟨k,N,d,oo',ls,hk,rfl,rfl,hNk,own,tin,HL,H5,bel⟩:=hrel
  by_cases hlt:k<n
  ·have hkl:k<l.length:=by rw [← HN.out];exact hlt
   have hkM:k<M:=by omega
   obtain ⟨bb,off,rfl,hbb,hcell⟩:=seg_do HS.out hkl
   obtain ⟨ob,ooff,rfl,hob,hocell⟩:=out_at HOut.out hkM
   obtain ⟨x,hx⟩:∃ x,x=dtt l k:=⟨_,rfl⟩
   obtain ⟨y,hy⟩:∃ y,y=ys.getD k at0:=⟨_,rfl⟩
   have cc:∀ i,i<7→wr.cell? ⟨bb,off+k*7+i,none⟩=x.cells[i]?:=fun i hi=>by rw [hx];exact (bel.cell (p:=⟨bb,_,none⟩) hbb).trans (hcell k hkl i hi)
   obtain ⟨E,hE⟩:∃ E,E=y.a.err:=⟨_,rfl⟩
   obtain ⟨K,hK⟩:∃ K,K=x.d.kind:=⟨_,rfl⟩
   obtain ⟨m,hm⟩:∃ m,m=x.d.se.length:=⟨_,rfl⟩
   obtain ⟨se,hse⟩:∃ se,se=x.d.se:=⟨_,rfl⟩
   obtain ⟨t,ht⟩:∃ t,t=x.d.t:=⟨_,rfl⟩
   obtain ⟨v,hv⟩:∃ v,v=x.d.v:=⟨_,rfl⟩
   have q0:wr.cell? ⟨bb,off+k*7,none⟩=some (.int .i64 K):=by rw [hK];exact cc 0 (by omega)
   have q1:wr.cell? ⟨bb,off+k*7+1,none⟩=some (.int .i64 x.d.tier):=cc 1 (by omega)
   have q2:wr.cell? ⟨bb,off+k*7+2,none⟩=some (.int .i64 x.d.till):=cc 2 (by omega)
   have q3:wr.cell? ⟨bb,off+k*7+3,none⟩=some (.slice x.sa m x.sc):=by rw [hm];exact cc 3 (by omega)
   have q4:wr.cell? ⟨bb,off+k*7+4,none⟩=some (.int .i64 t):=by rw [ht];exact cc 4 (by omega)
   have q5:wr.cell? ⟨bb,off+k*7+5,none⟩=some (.int .i64 v):=by rw [hv];exact cc 5 (by omega)
   have q6:wr.cell? ⟨bb,off+k*7+6,none⟩=some (.string x.d.tx):=cc 6 (by omega)
   have hxl:x∈l:=by rw [hx,dtt_get hkl];exact List.getElem_mem hkl
   have hdin:DIn w x:=HD.out x hxl
   have sgx:Seg w x.sa (lcells se):=by rw [hse];exact hdin.seg
   have hmse:m=se.length:=by rw [hm,hse]
   have hyl:=HOut.out.len
   have hkA:k<A.length:=by rw [← HA.out];simp;omega
   have hya:A[k]=y.a:=by
    have hky:k<ys.length:=by omega
    have h1:=congrArg (fun L=>L[k]?) HA.out
    simp only [List.getElem?_map,List.getElem?_eq_getElem hky,List.getElem?_eq_getElem hkA,Option.map_some] at h1
    injection h1 with h1
    rw [← h1,hy]
    simp [List.getD,List.getElem?_eq_getElem hky]
   have HG:Hid (toldP [] (dns (l.take (k+1))) (A.take (k+1))=if K=1∧E=0 then tellP (lns ls) se (t,v) else lns ls):=by
    show _=_
    rw [dns_take hkl,List.take_add_one (l:=A),List.getElem?_eq_getElem hkA]
    simp only [Option.toList_some]
    rw [toldP_snoc _ _ _ _ _ (by simp [dns];omega),← HL.out,hya,← hx,tellS,hK,hE,hse,ht,hv]
   have HM4:Hid (K=1→E=0→m≤4):=fun h1 h2=>by
    have:=H4.out k hlt (by rw [← hx,← hK];exact h1) (by rw [← hy,← hE];exact h2)
    rw [hm,hx];exact this
   have o0':wr.cell? ⟨ob,ooff+k*4,none⟩=some (.int .i64 E):=by
    have:=(bel.cell (p:=⟨ob,ooff+k*4+0,none⟩) hob).trans (hocell 0 (by omega))
    rw [← hy] at this
    rw [hE];exact this
   have hki:(k:Int)<(n:Int):=by omega
   have hkiM:(k:Int)<(M:Int):=by omega
   obtain ⟨V0,hV0⟩:∃ V0,V0=wr.alloc (.cells #[.int .i64 K,.int .i64 x.d.tier,.int .i64 x.d.till,.slice x.sa m x.sc,.int .i64 t,.int .i64 v,.string x.d.tx] 36):=⟨_,rfl⟩
   have bV0:Below wr.heap.size wr V0:=by rw [hV0];exact (Below.refl _ _).alloc (Nat.le_refl _) _
   have D0:V0.heap[wr.heap.size]?=some (.cells #[.int .i64 K,.int .i64 x.d.tier,.int .i64 x.d.till,.slice x.sa m x.sc,.int .i64 t,.int .i64 v,.string x.d.tx] 36 (0,0)):=by rw [hV0];exact heap_alloc_new wr _
   have o0:V0.cell? ⟨ob,ooff+k*4,none⟩=some (.int .i64 E):=(bV0.cell (World.block_lt_of_cell? wr _ o0')).trans o0'
   have own0:=own_below own bV0
   have tin0:=tin.below bV0
   have bel0:=below_step bV0 bel
   obtain ⟨D,hD⟩:∃ D,D=wr.heap.size:=⟨_,rfl⟩
   rw [← hD] at D0
   have HSg:Hid (∀ W,Below w.heap.size w W→Seg W x.sa (lcells se)):=fun W hb=>sgx.below hb
   have hsrc:∃ d∈l,se=d.d.se∧x.sa=d.sa∧x.sc=d.sc:=⟨x,hxl,hse,rfl,rfl⟩
   obtain ⟨sa,hsa⟩:∃ sa,sa=x.sa:=⟨_,rfl⟩
   obtain ⟨sc,hsc⟩:∃ sc,sc=x.sc:=⟨_,rfl⟩
   obtain ⟨t1,ht1⟩:∃ z,z=x.d.tier:=⟨_,rfl⟩
   obtain ⟨t2,ht2⟩:∃ z,z=x.d.till:=⟨_,rfl⟩
   obtain ⟨tx,htx⟩:∃ z,z=x.d.tx:=⟨_,rfl⟩
   rw [← hsa,← hsc] at hsrc
   rw [← hsa] at HSg
   rw [← hsa,← hsc,← ht1,← ht2,← htx] at D0 hV0
   rw [← hsa,← hsc] at q3
   rw [← ht1] at q1
   rw [← ht2] at q2
   rw [← htx] at q6
   have HSrc:=hide hsrc
   obtain ⟨p0,p1,p2,p3,p4,p5,p6⟩:=seven_cells D0
   have HV0:=hide hV0
   have HDD:=hide hD
   have HMs:=hide hmse
   clear hcell hocell cc hx hy hE hK hm hse ht hv hkl hxl hdin sgx hyl hkA hya o0' own tin bel hV0 hD hsrc hsa hsc ht1 ht2 htx hmse bV0
   go_upto_region 5 with fail
   rw [← HV0.out,← HDD.out]
   by_cases hK1:K=1
   ·by_cases hE0:E=0
    ·have HG2:Hid (toldP [] (dns (l.take (k+1))) (A.take (k+1))=tellP (lns ls) se (t,v)):=by show _=_;rw [HG.out,if_pos ⟨hK1,hE0⟩]
     have hm4:m≤4:=HM4.out hK1 hE0
     subst hK1
     subst hE0
     clear HG HM4 HL
     go_upto_block 2 with fail
     go_cut [8] from 27 to 43 (fun j wx=>∃ jj:Nat,j=.int .i64 (jj:Int)∧jj≤N∧Hid (∀ i,i<jj→cmpS (lser (lns ls) i) se<0)∧Hid (jj=N∨¬ cmpS (lser (lns ls) jj) se<0)∧Below V0.heap.size V0 wx)
     case first =>
      go_wp2
      go_loopw [8] (fun j wq=>∃ jj:Nat,jj≤N∧j=.int .i64 (jj:Int)∧Hid (∀ i,i<jj→cmpS (lser (lns ls) i) se<0)∧Below V0.heap.size V0 wq) (fun j _=>N-(intOf j).toNat)
      case atStart=>exact ⟨0,Nat.zero_le _,rfl,fun i hi=>(by omega),Below.refl _ _⟩
      case round =>
       obtain ⟨jj,hjN,hjj,HJ,bq⟩:=hrel
       subst hjj
       by_cases hjl:jj<N
       ·have hlen:N=ls.length:=by have:=own0.1;rw [tcells_length'] at this;omega
        have hjls:jj<ls.length:=by omega
        obtain ⟨rb,ro,hro,hrb,hrc⟩:=seg_line (own_seg' own0) hjls
        obtain ⟨z,hz⟩:∃ z,z=lt ls jj:=⟨_,rfl⟩
        obtain ⟨zn,hzn⟩:∃ zn,zn=z.ser.length:=⟨_,rfl⟩
        have hzm:z∈ls:=by rw [hz];exact lt_mem hjls
        have r0:wr.cell? ⟨rb,ro+jj*2,none⟩=some (.slice z.sa zn z.sc):=by rw [hzn,hz];exact (bq.cell (by exact hrb)).trans (hrc jj hjls).1
        have s3:wr.cell? ⟨D,3,none⟩=some (.slice sa m sc):=(bq.cell (World.block_lt_of_cell? V0 _ p3)).trans p3
        have z4:zn≤4:=by rw [hzn];exact H5.out z hzm
        obtain ⟨zd,hzd,ez1,ez2,ez3⟩:=(tin0.ln z hzm).src
        have HZs:Hid (∀ W,Below w.heap.size w W→Seg W z.sa (lcells z.ser)):=fun W hb=>by rw [ez1,ez2];exact ((HD.out zd hzd).below hb).seg
        obtain ⟨C,hC⟩:∃ C,C=cmpS z.ser se:=⟨_,rfl⟩
        have PC:Hid (∀ w',Below V0.heap.size V0 w'→Calls Tryz.prog 20 #[.slice z.sa zn z.sc,.slice sa m sc] w' fun e w''=>e=.returned (.int .i64 C)∧Below w'.heap.size w' w''):=fun w' hb'=>by
         rw [hC]
         exact ncmp_any z.ser se z.sa sa zn m z.sc sc w' (HZs.out w' (below_step hb' bel0)) (HSg.out w' (below_step hb' bel0)) hzn HMs.out (by omega)
        have HCj:Hid (cmpS (lser (lns ls) jj) se=C):=by show _=_;rw [lser_lns hjls,hC,hz]
        have g1:rb<wr.heap.size:=World.block_lt_of_cell? wr _ r0
        have g2:D<wr.heap.size:=World.block_lt_of_cell? wr _ s3
        have HSS:Hid (∀ w',Below wr.heap.size wr w'→w'.cell? ⟨rb,ro+jj*2,none⟩=some (.slice z.sa zn z.sc)∧w'.cell? ⟨D,3,none⟩=some (.slice sa m sc)):=fun w' hb'=>⟨(hb'.cell (by exact g1)).trans r0,(hb'.cell (by exact g2)).trans s3⟩
        have R0:Below wr.heap.size wr wr.drew:=below_drewN (Below.refl _ _) 1
        have hji:(jj:Int)<(N:Int):=by omega
        subst hro
        clear hrc hz hzn hzm z4 hzd ez1 ez2 ez3 HZs hC r0 s3 hjls hlen
        by_cases hc:C<0
        ·have dC:decide (C<0)=true:=by simpa using hc
         have HJ2:Hid (∀ i,i<jj+1→cmpS (lser (lns ls) i) se<0):=fun i hi=>by
          rcases Nat.lt_or_ge i jj with h | h
          ·exact HJ.out i h
          ·have:i=jj:=by omega
           subst this
           rw [HCj.out];exact hc
         clear HJ HCj
         go_wp2_with fail
         go_region_held3 (fun w'=>w'.cell? ⟨rb,ro+jj*2,none⟩=some (.slice z.sa zn z.sc)∧w'.cell? ⟨D,3,none⟩=some (.slice sa m sc)) (exact HSS.out _ (by with_reducible assumption))
          (first | (go_at_call 20;refine (PC.out _ (bq.trans (Below.mono (by with_reducible assumption) bq.size))).mono ?_;rintro e w3 ⟨rfl,b3⟩;have R4:=below_step b3 (by with_reducible assumption)))
         all_goals
          have bel3:Below V0.heap.size V0 w3:=bq.trans (R4.mono bq.size)
          clear R4 b3 R0 HSS PC bq
          go_wp2
          go_roundw
          case rel=>exact ⟨jj+1,by omega,by go_num,HJ2,bel3⟩
          case measure=>simp [intOf];omega
        ·have dC:decide (C<0)=false:=by simpa using hc
         have HE2:Hid (jj=N∨¬ cmpS (lser (lns ls) jj) se<0):=.inr (by rw [HCj.out];exact hc)
         clear HCj
         go_wp2_with fail
         go_region_held3 (fun w'=>w'.cell? ⟨rb,ro+jj*2,none⟩=some (.slice z.sa zn z.sc)∧w'.cell? ⟨D,3,none⟩=some (.slice sa m sc)) (exact HSS.out _ (by with_reducible assumption))
          (first | (go_at_call 20;refine (PC.out _ (bq.trans (Below.mono (by with_reducible assumption) bq.size))).mono ?_;rintro e w3 ⟨rfl,b3⟩;have R4:=below_step b3 (by with_reducible assumption)))
         all_goals
          have bel3:Below V0.heap.size V0 w3:=bq.trans (R4.mono bq.size)
          clear R4 b3 R0 HSS PC bq
          go_wp2_with fail
          go_meet
          exact ⟨jj,rfl,hjN,HJ,HE2,bel3⟩
       ·have hje:jj=N:=by omega
        have hji:¬ (jj:Int)<(N:Int):=by omega
        have dji:decide ((jj:Int)<(N:Int))=false:=by simpa using hji
        go_wp2_with fail
        subst hje
        go_quiet (fail)
        go_wp2_with fail
        go_meet
        exact ⟨jj,rfl,Nat.le_refl _,HJ,.inl rfl,below_drewN bq _⟩
     case rest =>
      obtain ⟨jj,rfl,hjN,HJ,HE2,bc⟩:=hcut
      have hlen:N=ls.length:=by have:=own0.1;rw [tcells_length'] at this;omega
      have HLn:=hide hlen
      have HJp:Hid (lpos (lns ls) se=jj):=lpos_eq HJ.out (by simp [lns];omega) (by
       rcases HE2.out with h | h
       ·left;rw [h,hlen];simp [lns]
       ·exact .inr h)
      clear HJ HE2 hlen
      go_upto_region 9 with fail
      go_cut [58] from 44 to 57 (fun bv wx=>∃ hb:Bool,bv=.bool hb∧Hid (hb=true↔¬ (jj<N∧cmpS (lser (lns ls) jj) se=0))∧Below V0.heap.size V0 wx)
      case first =>
       by_cases hjl:jj<N
       ·have hjls:jj<ls.length:=by rw [← HLn.out];exact hjl
        obtain ⟨rb,ro,hro,hrb,hrc⟩:=seg_line (own_seg' own0) hjls
        obtain ⟨z,hz⟩:∃ z,z=lt ls jj:=⟨_,rfl⟩
        obtain ⟨zn,hzn⟩:∃ zn,zn=z.ser.length:=⟨_,rfl⟩
        have hzm:z∈ls:=by rw [hz];exact lt_mem hjls
        have r0:wc.cell? ⟨rb,ro+jj*2,none⟩=some (.slice z.sa zn z.sc):=by rw [hzn,hz];exact (bc.cell (by exact hrb)).trans (hrc jj hjls).1
        have s3:wc.cell? ⟨D,3,none⟩=some (.slice sa m sc):=(bc.cell (World.block_lt_of_cell? V0 _ p3)).trans p3
        have z4:zn≤4:=by rw [hzn];exact H5.out z hzm
        obtain ⟨zd,hzd,ez1,ez2,ez3⟩:=(tin0.ln z hzm).src
        have HZs:Hid (∀ W,Below w.heap.size w W→Seg W z.sa (lcells z.ser)):=fun W hb=>by rw [ez1,ez2];exact ((HD.out zd hzd).below hb).seg
        obtain ⟨C,hC⟩:∃ C,C=cmpS z.ser se:=⟨_,rfl⟩
        have PC:Hid (∀ w',Below V0.heap.size V0 w'→Calls Tryz.prog 20 #[.slice z.sa zn z.sc,.slice sa m sc] w' fun e w''=>e=.returned (.int .i64 C)∧Below w'.heap.size w' w''):=fun w' hb'=>by
         rw [hC]
         exact ncmp_any z.ser se z.sa sa zn m z.sc sc w' (HZs.out w' (below_step hb' bel0)) (HSg.out w' (below_step hb' bel0)) hzn HMs.out (by omega)
        have HCj:Hid (cmpS (lser (lns ls) jj) se=C):=by show _=_;rw [lser_lns hjls,hC,hz]
        have g1:rb<wc.heap.size:=World.block_lt_of_cell? wc _ r0
        have g2:D<wc.heap.size:=World.block_lt_of_cell? wc _ s3
        have HSS:Hid (∀ w',Below wc.heap.size wc w'→w'.cell? ⟨rb,ro+jj*2,none⟩=some (.slice z.sa zn z.sc)∧w'.cell? ⟨D,3,none⟩=some (.slice sa m sc)):=fun w' hb'=>⟨(hb'.cell (by exact g1)).trans r0,(hb'.cell (by exact g2)).trans s3⟩
        have R0:Below wc.heap.size wc wc.drew:=below_drewN (Below.refl _ _) 1
        have hje:((jj:Int) == (N:Int))=false:=by simp;omega
        have hji:(jj:Int)<(N:Int):=by omega
        subst hro
        clear hrc hz hzn hzm z4 hzd ez1 ez2 ez3 HZs hC r0 s3 hjls
        have HF:Hid (∀ c,(C != 0)=c→(c=true↔¬ (jj<N∧cmpS (lser (lns ls) jj) se=0))):=fun c hc=>by
         rw [HCj.out,← hc]
         simp [hjl]
        clear HCj
        by_cases hc:C=0
        ·have dC:(C != 0)=false:=by simp [hc]
         go_region_held3 (fun w'=>w'.cell? ⟨rb,ro+jj*2,none⟩=some (.slice z.sa zn z.sc)∧w'.cell? ⟨D,3,none⟩=some (.slice sa m sc)) (exact HSS.out _ (by with_reducible assumption))
          (first | (go_at_call 20;refine (PC.out _ (bc.trans (Below.mono (by with_reducible assumption) bc.size))).mono ?_;rintro e w3 ⟨rfl,b3⟩;have R4:=below_step b3 (by with_reducible assumption)))
         all_goals
          have bel3:Below V0.heap.size V0 w3:=bc.trans (R4.mono bc.size)
          clear R4 b3 R0 HSS PC bc
          go_wp2_with fail
          go_meet
          exact ⟨false,by first | rfl | simp [dC],HF.out _ dC,bel3⟩
        ·have dC:(C != 0)=true:=by simp [hc]
         go_region_held3 (fun w'=>w'.cell? ⟨rb,ro+jj*2,none⟩=some (.slice z.sa zn z.sc)∧w'.cell? ⟨D,3,none⟩=some (.slice sa m sc)) (exact HSS.out _ (by with_reducible assumption))
          (first | (go_at_call 20;refine (PC.out _ (bc.trans (Below.mono (by with_reducible assumption) bc.size))).mono ?_;rintro e w3 ⟨rfl,b3⟩;have R4:=below_step b3 (by with_reducible assumption)))
         all_goals
          have bel3:Below V0.heap.size V0 w3:=bc.trans (R4.mono bc.size)
          clear R4 b3 R0 HSS PC bc
          go_wp2_with fail
          go_meet
          exact ⟨true,by first | rfl | simp [dC],HF.out _ dC,bel3⟩
       ·have hje:jj=N:=by omega
        subst hje
        have e1:((jj:Int) == (jj:Int))=true:=by simp
        go_quiet (fail)
        go_wp2_with fail
        go_meet
        exact ⟨true,by first | rfl | simp,(by show _↔_;simp),below_drewN bc _⟩
      case rest =>
       obtain ⟨hb,rfl,HH,bc2⟩:=hcut
       obtain ⟨X,hX⟩:∃ X,X=wc:=⟨_,rfl⟩
       rw [← hX] at bc2 ⊢
       clear hX bc
       have ownX:=own_below own0 bc2
       have tinX:=tin0.below bc2
       have DX:=below_block bc2 D0
       have belX:=below_step bc2 bel0
       clear own0 tin0
       go_upto_if 58 with fail
       go_cut [5] from 59 to 72 (fun v' wx=>TMid wx w.heap.size l k ls se (t,v) v' jj∧Below X.heap.size X wx)
       case first =>
        cases hb with
        | false =>
         obtain ⟨hjl,hc0⟩:jj<N∧cmpS (lser (lns ls) jj) se=0:=Decidable.not_not.1 (fun h=>by have:=HH.out.2 h;cases this)
         have hjls:jj<ls.length:=by rw [← HLn.out];exact hjl
         have hser:(lt ls jj).ser=se:=by rw [lser_lns hjls] at hc0;exact (cmpS_zero _ _).1 hc0
         obtain ⟨g,hg⟩:=own_some ownX (by omega)
         subst hg
         have em:=ls_mid hjls
         have FIN:Hid (TMid X w.heap.size l k ls se (t,v) (.slice (some ⟨g,0,none⟩) N d) jj):=by
          refine ⟨⟨g,N,d,ls.take jj,ls.drop (jj+1),lt ls jj,rfl,by rw [em];exact ownX,by simp;omega,by rw [em];exact tinX,?_,by omega,by rw [em];exact H5.out⟩⟩
          have e2:lns ls=lns (ls.take jj)++[(se,(lt ls jj).smp)]++lns (ls.drop (jj+1)):=by
           rw [← hser,← lns_mid,em]
          have hp:=HJp.out
          rw [e2] at hp ⊢
          rw [hser]
          exact tell_in (by rw [hp];simp [lns];omega)
         clear HH hjl hc0 hjls hser em
         go_wp2_with fail
         go_meet
         exact ⟨FIN.out,Below.refl _ _⟩
        | true =>
         have hnot:¬ (jj<N∧cmpS (lser (lns ls) jj) se=0):=HH.out.1 rfl
         obtain ⟨a,ha⟩:∃ a,a=ls.take jj:=⟨_,rfl⟩
         obtain ⟨b,hb⟩:∃ b,b=ls.drop jj:=⟨_,rfl⟩
         have hab:a++b=ls:=by rw [ha,hb,List.take_append_drop]
         have hal:a.length=jj:=by rw [ha];simp;have:=HLn.out;omega
         have hbl:b.length=N-jj:=by rw [hb];simp;have:=HLn.out;omega
         obtain ⟨_,_,hvv,-,hNd'⟩:=own_open ownX
         have hNd:N≤d:=by injection hvv with _ _ h3;omega
         obtain ⟨oa,hoa⟩:∃ oa,oa=cutP oo' d 0 2:=⟨_,rfl⟩
         obtain ⟨ob',hob'⟩:∃ ob',ob'=cutP oo' d jj 2:=⟨_,rfl⟩
         have hl2:(tcells ls).length=N*2:=ownX.1
         have hgA:Seg X oa (tcells a):=by
          have:=seg_cutP (n:=N) (p1:=0) (p2:=jj) (own_seg' ownX) hl2 hNd (Nat.zero_le _) hjN
          rw [tcells_td] at this
          rw [hoa,ha];simpa using this
         have hgB:Seg X ob' (tcells b):=by
          have:=seg_cutP (n:=N) (p1:=jj) (p2:=N) (own_seg' ownX) hl2 hNd hjN (Nat.le_refl _)
          rw [tcells_td,List.take_of_length_le (by rw [HLn.out];exact Nat.le_refl _)] at this
          rw [hob',hb];exact this
         have hnA:oa=none→jj=0∧d=0:=fun h=>by
          have:=own_nil ownX (cutP_none (by rw [← hoa];exact h))
          omega
         have hnB:ob'=none→N-jj=0∧d-jj=0:=fun h=>by
          have:=own_nil ownX (cutP_none (by rw [← hob'];exact h))
          omega
         have SA:=slc_to (oo:=oo') hjN hNd
         have SB0:=slc_from (oo:=oo') (d:=d) hjN
         rw [← hoa] at SA
         rw [← hob'] at SB0
         have lenA:(tcells a).length=jj*2:=by rw [tcells_length',hal]
         have lenB:(tcells b).length=(N-jj)*2:=by rw [tcells_length',hbl]
         have hone:∀ u∈[Value.slice sa m sc,.slice none 0 0],u.oneCell'=true:=by
          intro u hu
          simp only [List.mem_cons,List.not_mem_nil,or_false] at hu
          rcases hu with e | e <;> (subst e;rfl)
         have HFI:Hid (∀ (wz:World) (vz:Value) (ownz:wz.ownsRow X.heap.size 63 2 vz (0+jj+1+(N-jj)) ([]++tcells a++[.slice sa m sc,.slice none 0 0]++tcells b)) (blz:Below X.heap.size X wz),TMid wz w.heap.size l k ls se (t,v) vz jj):=by
          intro wz vz ownz blz
          obtain ⟨A',Dp,hvA,_,_⟩:=own_open ownz
          subst hvA
          obtain ⟨g,hg⟩:=own_some ownz (by omega)
          subst hg
          have hN1:0+jj+1+(N-jj)=N+1:=by omega
          rw [hN1] at ownz
          have ec:tcells (a++[⟨se,[],sa,sc,none,0⟩]++b)=[]++tcells a++[.slice sa m sc,.slice none 0 0]++tcells b:=by
           rw [tcells_append',tcells_append',HMs.out];rfl
          have tz:=tinX.below blz
          have hm:∀ y∈a++b,y∈ls:=fun y hy=>by rw [← hab];exact hy
          refine ⟨⟨g,N+1,Dp,a,b,⟨se,[],sa,sc,none,0⟩,by rw [hN1],?_,hal,⟨?_,?_⟩,?_,by omega,?_⟩⟩
          ·rw [ec,hN1];exact own_lower ownz belX.size
          ·intro y hy
           rcases List.mem_append.1 hy with e | e
           ·rcases List.mem_append.1 e with e | e
            ·exact tz.ln y (hm y (List.mem_append_left _ e))
            ·simp at e
             rw [e]
             obtain ⟨dd,hdd,e1,e2,e3⟩:=HSrc.out
             exact ⟨by simpa [scells] using World.ownsRow_nil _ _ _ _,⟨dd,hdd,e1,e2,e3⟩,Nat.zero_le _⟩
           ·exact tz.ln y (hm y (List.mem_append_right _ e))
          ·refine apart_mid (by rw [hab];exact tz.dis) (fun y _ q _ h2=>?_)
           simp [lblk,Value.ownBlock] at h2
          ·have hp:=HJp.out
           rw [← hab,lns_append'] at hp ⊢
           refine tell_new (by rw [hp];simp [lns,hal]) ?_
           by_cases hjl:jj<N
           ·right
            intro hc
            apply hnot
            refine ⟨hjl,?_⟩
            rw [← hab,lns_append',show lser (lns a++lns b) jj=lser (lns b) 0 from by
             have:(lns a).length=jj:=by simp [lns,hal]
             rw [← this]
             simp [lser,List.getD,List.getElem?_append_right (Nat.le_refl (lns a).length)]]
            exact hc
           ·left
            have:b=[]:=List.length_eq_zero_iff.1 (by omega)
            rw [this];rfl
          ·intro y hy
           rcases List.mem_append.1 hy with e | e
           ·rcases List.mem_append.1 e with e | e
            ·exact H5.out y (hm y (List.mem_append_left _ e))
            ·simp at e
             rw [e]
             show se.length≤4
             rw [← HMs.out];exact hm4
           ·exact H5.out y (hm y (List.mem_append_right _ e))
         have BE0:Below X.heap.size X (X.alloc (.cells #[] 63)):=(Below.refl _ X).alloc (Nat.le_refl _) _
         have BES0:Below X.heap.size X ((X.alloc (.cells #[] 63)).alloc (.cells #[.slice sa m sc,.slice none 0 0] 63)):=BE0.alloc BE0.size _
         have BS0:Below X.heap.size X (X.alloc (.cells #[.slice sa m sc,.slice none 0 0] 63)):=(Below.refl _ X).alloc (Nat.le_refl _) _
         have BSE0:Below X.heap.size X ((X.alloc (.cells #[.slice sa m sc,.slice none 0 0] 63)).alloc (.cells #[] 63)):=BS0.alloc BS0.size _
         have BE:Below X.heap.size X (X.alloc (.cells #[] 63)).drew:=below_drewN BE0 1
         have BES:Below X.heap.size X ((X.alloc (.cells #[] 63)).alloc (.cells #[.slice sa m sc,.slice none 0 0] 63)).drew:=below_drewN BES0 1
         have BSE:Below X.heap.size X ((X.alloc (.cells #[.slice sa m sc,.slice none 0 0] 63)).alloc (.cells #[] 63)).drew:=below_drewN BSE0 1
         have OE:(X.alloc (.cells #[] 63)).drew.ownsRow X.heap.size 63 2 (.slice (some ⟨X.heap.size,0,none⟩) 0 0) 0 []:=own_heap rfl (World.ownsRow_made X #[] 0 (Nat.le_refl _) (by decide) rfl)
         have OES:((X.alloc (.cells #[] 63)).alloc (.cells #[.slice sa m sc,.slice none 0 0] 63)).drew.ownsRow X.heap.size 63 2 (.slice (some ⟨X.heap.size,0,none⟩) 0 0) 0 []:=own_heap rfl ((World.ownsRow_made X #[] 0 (Nat.le_refl _) (by decide) rfl).alloc _)
         have OSE:((X.alloc (.cells #[.slice sa m sc,.slice none 0 0] 63)).alloc (.cells #[] 63)).drew.ownsRow X.heap.size 63 2 (.slice (some ⟨X.heap.size+1,0,none⟩) 0 0) 0 []:=by
          have:=World.ownsRow_made (base:=X.heap.size) (e:=63) (size:=2) (X.alloc (.cells #[.slice sa m sc,.slice none 0 0] 63)) #[] 0 (by simp) (by decide) rfl
          rw [show (X.alloc (.cells #[.slice sa m sc,.slice none 0 0] 63)).heap.size=X.heap.size+1 from by simp] at this
          exact own_heap rfl this
         have SB:Seg ((X.alloc (.cells #[] 63)).alloc (.cells #[.slice sa m sc,.slice none 0 0] 63)).drew (some ⟨X.heap.size+1,0,none⟩) [.slice sa m sc,.slice none 0 0]:=by
          have:=seg_new (X.alloc (.cells #[] 63)) #[.slice sa m sc,.slice none 0 0] 63
          rw [show (X.alloc (.cells #[] 63)).heap.size=X.heap.size+1 from by simp] at this
          exact Seg.below this (below_drewN (Below.refl _ _) 1)
         have SC0:Seg (X.alloc (.cells #[.slice sa m sc,.slice none 0 0] 63)) (some ⟨X.heap.size,0,none⟩) [.slice sa m sc,.slice none 0 0]:=seg_new X #[.slice sa m sc,.slice none 0 0] 63
         have SC:Seg ((X.alloc (.cells #[.slice sa m sc,.slice none 0 0] 63)).alloc (.cells #[] 63)).drew (some ⟨X.heap.size,0,none⟩) [.slice sa m sc,.slice none 0 0]:=SC0.below (below_drewN ((Below.refl _ _).alloc (Nat.le_refl _) _) 1)
         obtain ⟨x0,x1,x2,x3,x4,x5,x6⟩:=seven_cells DX
         obtain ⟨u0,u1,u2,u3,u4,u5,u6⟩:=seven_cells (below_block BE0 DX)
         clear HH hnot ha hb hab hal hbl hvv hNd' hoa hob' hl2 HJp HLn HSrc HMs tinX ownX HSg D0 p0 p1 p2 p3 p4 p5 p6
         obtain ⟨ob,hob2⟩:∃ ob,ob=ob':=⟨_,rfl⟩
         rw [← hob2] at hgB hnB SB0
         clear hob2
         go_upto_region 10 with fail
         go_region_law
          (first
           | (refine step_append_seg (by rfl) (.tmp 59) (.tmp 62) 51 (by rfl) X.heap.size 63 i0 (.agg #[.slice none 0 0,.slice none 0 0]) 2 48 Tryz.underlying51 hi hz0 hz1 hz2 rfl (by decide) (.slice (some ⟨X.heap.size,0,none⟩) 0 0) 0 [] (by rfl) OE oa jj d (tcells a) (by rfl) hnA (hgA.below BE) lenA (tcells_one a) (by unfold maxLen;omega) (by omega) BE.size ?_;intro va wa owna gra hata;have bla:Below X.heap.size X wa:=BE.grown gra BE.size (fun j hj=>by simp [Value.ownBlock] at hj;omega);have hb1:=bla.size;obtain ⟨r0,r1,r2,r3,r4,r5,r6⟩:=seven_cells (below_block bla DX))
           | (refine step_append_seg (by rfl) (.tmp 59) (.tmp 62) 51 (by rfl) X.heap.size 63 i0 (.agg #[.slice none 0 0,.slice none 0 0]) 2 48 Tryz.underlying51 hi hz0 hz1 hz2 rfl (by decide) (.slice (some ⟨X.heap.size,0,none⟩) 0 0) 0 [] (by rfl) OES oa jj d (tcells a) (by rfl) hnA (hgA.below BES) lenA (tcells_one a) (by unfold maxLen;omega) (by omega) BES.size ?_;intro va wa owna gra hata;have bla:Below X.heap.size X wa:=BES.grown gra BES.size (fun j hj=>by simp [Value.ownBlock] at hj;omega);have hb1:=bla.size;obtain ⟨r0,r1,r2,r3,r4,r5,r6⟩:=seven_cells (below_block bla DX))
           | (refine step_append_seg (by rfl) (.tmp 59) (.tmp 62) 51 (by rfl) X.heap.size 63 i0 (.agg #[.slice none 0 0,.slice none 0 0]) 2 48 Tryz.underlying51 hi hz0 hz1 hz2 rfl (by decide) (.slice (some ⟨X.heap.size+1,0,none⟩) 0 0) 0 [] (by rfl) OSE oa jj d (tcells a) (by rfl) hnA (hgA.below BSE) lenA (tcells_one a) (by unfold maxLen;omega) (by omega) BSE.size ?_;intro va wa owna gra hata;have bla:Below X.heap.size X wa:=BSE.grown gra BSE.size (fun j hj=>by simp [Value.ownBlock] at hj;omega);have hb1:=bla.size;obtain ⟨r0,r1,r2,r3,r4,r5,r6⟩:=seven_cells (below_block bla DX))
           | (refine step_append_seg (by rfl) (.tmp 63) (.tmp 67) 51 (by rfl) X.heap.size 63 i0 (.agg #[.slice none 0 0,.slice none 0 0]) 2 48 Tryz.underlying51 hi hz0 hz1 hz2 rfl (by decide) va (0+jj) ([]++tcells a) (by rfl) (owna.alloc _) (some ⟨wa.heap.size,0,none⟩) 1 1 [.slice sa m sc,.slice none 0 0] (by rfl) (fun h=>by simp at h) (seg_new wa _ _) rfl hone (by unfold maxLen;omega) (by omega) (by simp;omega) ?_;intro vb wb ownb grb hatb;have blb:Below X.heap.size X wb:=(bla.alloc hb1 _).grown grb (by simp;omega) (fun j hj=>(owna.lt j hj).1);have hb2:=blb.size)
           | (refine step_append_seg (by rfl) (.tmp 63) (.tmp 67) 51 (by rfl) X.heap.size 63 i0 (.agg #[.slice none 0 0,.slice none 0 0]) 2 48 Tryz.underlying51 hi hz0 hz1 hz2 rfl (by decide) va (0+jj) ([]++tcells a) (by rfl) (owna) (some ⟨X.heap.size+1,0,none⟩) 1 1 [.slice sa m sc,.slice none 0 0] (by rfl) (fun h=>by simp at h) (seg_grown3 SB gra (fun b off h=>by simp at h;simp [Value.ownBlock];omega)) rfl hone (by unfold maxLen;omega) (by omega) (hb1) ?_;intro vb wb ownb grb hatb;have blb:Below X.heap.size X wb:=bla.grown grb hb1 (fun j hj=>(owna.lt j hj).1);have hb2:=blb.size)
           | (refine step_append_seg (by rfl) (.tmp 63) (.tmp 67) 51 (by rfl) X.heap.size 63 i0 (.agg #[.slice none 0 0,.slice none 0 0]) 2 48 Tryz.underlying51 hi hz0 hz1 hz2 rfl (by decide) va (0+jj) ([]++tcells a) (by rfl) (owna) (some ⟨X.heap.size,0,none⟩) 1 1 [.slice sa m sc,.slice none 0 0] (by rfl) (fun h=>by simp at h) (seg_grown3 SC gra (fun b off h=>by simp at h;simp [Value.ownBlock];omega)) rfl hone (by unfold maxLen;omega) (by omega) (hb1) ?_;intro vb wb ownb grb hatb;have blb:Below X.heap.size X wb:=bla.grown grb hb1 (fun j hj=>(owna.lt j hj).1);have hb2:=blb.size)
           | (refine step_append_seg (by rfl) (.tmp 68) (.tmp 71) 51 (by rfl) X.heap.size 63 i0 (.agg #[.slice none 0 0,.slice none 0 0]) 2 48 Tryz.underlying51 hi hz0 hz1 hz2 rfl (by decide) vb (0+jj+1) ([]++tcells a++[.slice sa m sc,.slice none 0 0]) (by rfl) ownb ob (N-jj) (d-jj) (tcells b) (by rfl) hnB (hgB.below blb) lenB (tcells_one b) (by unfold maxLen;omega) (by omega) hb2 ?_;intro vz wz ownz grz hatz;have blz:Below X.heap.size X wz:=blb.grown grz hb2 (fun j hj=>(ownb.lt j hj).1)))
         all_goals
          go_wp2_with fail
          go_meet
          exact ⟨HFI.out _ _ ownz blz,blz⟩
       case rest =>
        obtain ⟨⟨⟨g,N',Dp,a,b,z,rfl,row,hal,tin,htell,hN',hf4⟩⟩,bcx⟩:=hcut
        have DC:=below_block bcx DX
        have belC:=below_step bcx belX
        have hz:=tin.ln z (by simp)
        obtain ⟨zm,hzm⟩:∃ zm,zm=z.smp.length:=⟨_,rfl⟩
        have hz6:zm≤k:=by rw [hzm];exact hz.few
        have hN1:jj<N':=by
         have:=row.1
         rw [tcells_length'] at this
         simp at this
         omega
        have hji:(jj:Int)<(N':Int):=by omega
        have htl:a.length*2+1<(tcells (a++[z]++b)).length:=by rw [tcells_length'];simp;omega
        have hmid:=(tcells_mid a b z).2
        rw [hal] at htl hmid
        rw [← hzm] at hmid
        have c1:wc.cell? ⟨g,jj*2+1,none⟩=some (.slice z.pa zm z.pc):=(own_slot row htl).1.trans hmid
        have bB:Below wc.heap.size wc (wc.alloc (.cells #[.int .i64 t,.int .i64 v] 34)):=(Below.refl _ _).alloc (Nat.le_refl _) _
        have bBd:Below wc.heap.size wc (wc.alloc (.cells #[.int .i64 t,.int .i64 v] 34)).drew:=below_drewN bB 1
        have c1B:(wc.alloc (.cells #[.int .i64 t,.int .i64 v] 34)).cell? ⟨g,jj*2+1,none⟩=some (.slice z.pa zm z.pc):=(bB.cell (World.block_lt_of_cell? wc _ c1)).trans c1
        have zown:wc.ownsRow w.heap.size 34 2 (.slice z.pa zm z.pc) zm (scells z.smp):=by rw [hzm];exact hz.own
        have zB:=own_below zown bBd
        have segB:Seg (wc.alloc (.cells #[.int .i64 t,.int .i64 v] 34)).drew (some ⟨wc.heap.size,0,none⟩) (scells [(t,v)]):=Seg.below (seg_new wc #[.int .i64 t,.int .i64 v] 34) (below_drewN (Below.refl _ _) 1)
        have rowB:=own_below row bBd
        have hbase:w.heap.size≤(wc.alloc (.cells #[.int .i64 t,.int .i64 v] 34)).drew.heap.size:=Nat.le_trans belC.size bBd.size
        obtain ⟨x0,x1,x2,x3,x4,x5,x6⟩:=seven_cells DC
        obtain ⟨u0,u1,u2,u3,u4,u5,u6⟩:=seven_cells (below_block bB DC)
        have HFI:Hid (∀ (wa:World) (pa:Option Addr) (pc:Nat) (_:wa.ownsRow w.heap.size 34 2 (.slice pa (zm+1) pc) (zm+1) (scells z.smp++scells [(t,v)])) (_:(wc.alloc (.cells #[.int .i64 t,.int .i64 v] 34)).drew.grownBy wa (Value.slice z.pa zm z.pc).ownBlock) (_:(Value.slice pa (zm+1) pc).ownBlock=(Value.slice z.pa zm z.pc).ownBlock∨(Value.slice pa (zm+1) pc).ownBlock=some (wc.alloc (.cells #[.int .i64 t,.int .i64 v] 34)).drew.heap.size),
          ∃ ls',(wa.setCell ⟨g,jj*2+1,none⟩ (.slice pa (zm+1) pc)).ownsRow w.heap.size 63 2 (.slice (some ⟨g,0,none⟩) N' Dp) N' (tcells ls')∧TIn (wa.setCell ⟨g,jj*2+1,none⟩ (.slice pa (zm+1) pc)) w.heap.size l (k+1) ls'∧Hid (lns ls'=toldP [] (dns (l.take (k+1))) (A.take (k+1)))∧Hid (∀ x∈ls',x.ser.length≤4)∧Below w.heap.size w (wa.setCell ⟨g,jj*2+1,none⟩ (.slice pa (zm+1) pc))):=by
         intro wa pa pc owna gra hata
         rw [hzm] at owna gra hata ⊢
         rw [← scells_append] at owna
         obtain ⟨h1,h2,h3⟩:=tin_put row tin bBd owna gra hata belC.size
         rw [hal] at h1 h2 h3
         refine ⟨_,h1,h2,?_,?_,belC.trans h3⟩
         ·show _=_
          rw [HG2.out,htell,lns_mid]
         ·intro y hy
          rcases List.mem_append.1 hy with e | e
          ·rcases List.mem_append.1 e with e | e
           ·exact hf4 y (List.mem_append_left _ (List.mem_append_left _ e))
           ·simp at e
            rw [e]
            exact hf4 z (by simp)
          ·exact hf4 y (List.mem_append_right _ e)
        have HRow:Hid (∀ (wa:World) (_:(wc.alloc (.cells #[.int .i64 t,.int .i64 v] 34)).drew.grownBy wa (Value.slice z.pa zm z.pc).ownBlock),wa.cell? ⟨g,jj*2+1,none⟩=some (.slice z.pa zm z.pc)∧wa.frozen? ⟨g,jj*2+1,none⟩=false):=fun wa gra=>by
         have h1:=own_slot (own_two rowB zB gra (by decide)) htl
         exact ⟨h1.1.trans hmid,h1.2⟩
        clear row hal tin htell hf4 hmid htl zown hz hzm DX D0 p0 p1 p2 p3 p4 p5 p6 HJp HLn HSrc HMs HSg HG2 H5 ownX tinX HH bc2 bcx
        go_upto_region 11 with fail
        go_region_law
         (first
          | (refine step_append_seg (by rfl) (.tmp 79) (.tmp 82) 56 (by rfl) w.heap.size 34 i1 (.agg #[.int .i64 0,.int .i64 0]) 2 16 Tryz.underlying56 hj hy0 hy1 hy2 rfl (by decide) (.slice z.pa zm z.pc) zm (scells z.smp) (by rfl) zB (some ⟨wc.heap.size,0,none⟩) 1 1 (scells [(t,v)]) (by rfl) (fun h=>by simp at h) segB rfl (scells_one _) (by unfold maxLen;omega) (by omega) hbase ?_;intro va wa owna gra hata;obtain ⟨A',Dq,hvA,_,_⟩:=own_open owna;subst hvA;obtain ⟨ls',FI1,FI2,FI3,FI4,FI5⟩:=HFI.out wa A' Dq owna gra hata;obtain ⟨s0,s1⟩:=HRow.out wa gra))
        all_goals
         go_wp2
         go_roundw
         case rel=>exact ⟨k+1,N',Dp,_,ls',by omega,by go_num,rfl,hN',FI1,FI2,FI3,FI4,FI5⟩
         case measure=>simp [intOf];omega
    ·have HG2:Hid (lns ls=toldP [] (dns (l.take (k+1))) (A.take (k+1))):=by show _=_;rw [HG.out,if_neg (fun h=>hE0 h.2)]
     have hE1:(E != 0)=true:=by simpa using hE0
     have hE2:(E == 0)=false:=by simpa using hE0
     have tin1:=tin0.mono (Nat.le_succ k)
     subst hK1
     clear HG HM4 HL hE0 tin0
     go_wp2
     go_roundw
     case rel=>exact ⟨k+1,N,d,oo',ls,by omega,by go_num,rfl,by omega,own0,tin1,HG2,H5,bel0⟩
     case measure=>simp [intOf];omega
   ·have HG2:Hid (lns ls=toldP [] (dns (l.take (k+1))) (A.take (k+1))):=by show _=_;rw [HG.out,if_neg (fun h=>hK1 h.1)]
    have hK2:(K != 1)=true:=by simpa using hK1
    have hK3:(K == 1)=false:=by simpa using hK1
    have tin1:=tin0.mono (Nat.le_succ k)
    clear HG HM4 HL hK1 tin0
    go_wp2
    go_roundw
    case rel=>exact ⟨k+1,N,d,oo',ls,by omega,by go_num,rfl,by omega,own0,tin1,HG2,H5,bel0⟩
    case measure=>simp [intOf];omega
  ·have he:k=n:=by omega
   subst he
   have hl:=HL.out
   rw [List.take_of_length_le (by rw [← HN.out];exact Nat.le_refl _)] at hl
   have FIN:=hide (And.intro own (And.intro tin (And.intro hl bel)))
   clear own tin HL hl bel H5
   go_wp2
   go_ret
   exact ⟨_,_,_,_,rfl,FIN.out.1,FIN.out.2.1,FIN.out.2.2.1,FIN.out.2.2.2⟩
end Go.Proofs.YtoldmigappbjcaaGreatDoor
namespace Go.GrainU
open Go.RowKit
theorem taken_right {b:Bs} {d:Dn} (hk:d.kind=1) (he:(doB b d).2.err=0):wrongS d.se=0:=by
 have e:doB b d=((takeB b d.se d.t d.v).1,⟨(takeB b d.se d.t d.v).2,0,[],0⟩):=by unfold doB;rw [if_pos hk]
 rw [e] at he
 have h2:(takeB b d.se d.t d.v).2=0:=he
 unfold takeB at h2
 by_cases h1:wrongS d.se=0
 ·exact h1
 ·rw [if_pos h1] at h2;exact absurd h2 h1
end Go.GrainU
namespace Go.Proofs.YtoldmigappbjcaaGreatDoor
open Go.RowKit Go.GrainU
theorem told4 {l:List DT} {ys:List AT} (hys:ys.map (fun y=>y.a)=(playB b0 (dns l)).2):∀ k,k<l.length→(dtt l k).d.kind=1→(ys.getD k at0).a.err=0→(dtt l k).d.se.length≤4:=by
 intro k hk h1 h2
 have hkd:k<(dns l).length:=by simp [dns];exact hk
 have hat:=playB_at (l:=dns l) (b:=b0) hkd
 have hd:(dns l)[k]=(dtt l k).d:=by simp [dns,dtt,List.getD,hk]
 have hyl:ys.length=l.length:=by
  have:=congrArg List.length hys
  rw [List.length_map,playB_len] at this
  simpa [dns] using this
 have hky:k<ys.length:=by omega
 rw [← hys,List.getElem?_map,List.getElem?_eq_getElem hky,hd] at hat
 simp only [Option.map_some] at hat
 injection hat with hat
 have hy:(ys.getD k at0)=ys[k]:=by simp [List.getD,List.getElem?_eq_getElem hky]
 rw [hy,hat] at h2
 exact wrongS_len (taken_right h1 h2)
open Go.RowKit Go.GrainU
theorem dns_tk (l:List DT) (i:Nat):dns (l.take i)=(dns l).take i:=by simp [dns]
def ahead (l:List DT) (i:Nat):Bs:=(playB b0 (dns (l.take i))).1
theorem ahead_inv (l:List DT) (i:Nat):BInv (ahead l i):=playB_inv _ b0_inv
theorem ahead_few {l:List DT} {i:Nat} (h:l.length≤120):FewB 500 (ahead l i):=by
 have:=playB_few (dns (l.take i)) few0
 exact this.mono (by simp [dns];omega)
theorem ahead_told (l:List DT) (i:Nat):toldP [] (dns (l.take i)) ((playB b0 (dns l)).2.take i)=lnsB (ahead l i).l:=by
 rw [← playB_take,← dns_tk]
 exact told_play _ b0
theorem ahead_at {l:List DT} {i:Nat} (h:i<l.length) (hk:(dtt l i).d.kind=4):(playB b0 (dns l)).2[i]?=some (askB (ahead l i) (dtt l i).d.tx (dtt l i).d.till):=by
 have hkd:i<(dns l).length:=by simp [dns];exact h
 have hat:=playB_at (l:=dns l) (b:=b0) hkd
 have hd:(dns l)[i]=(dtt l i).d:=by simp [dns,dtt,List.getD,h]
 rw [hd,← dns_tk] at hat
 rw [hat]
 have e:∀ (c:Bs) (d:Dn),d.kind=4→(doB c d).2=askB c d.tx d.till:=fun c d h4=>by unfold doB;rw [if_neg (by omega),if_neg (by omega),if_neg (by omega),if_pos h4]
 rw [e _ _ hk]
 rfl
theorem dtt_take {l:List DT} {i k:Nat} (h:k<i):dtt (l.take i) k=dtt l k:=by
 simp [dtt,List.getD,List.getElem?_take_of_lt h]
theorem dcells_take (l:List DT):∀ p,(dcells l).take (p*7)=dcells (l.take p):=by
 induction l with
 | nil=>intro p;simp [dcells]
 | cons x r ih =>
  intro p
  cases p with
  | zero=>simp [dcells]
  | succ p =>
   rw [show (p+1)*7=x.cells.length+p*7 from by simp [DT.cells];omega]
   simp only [dcells,List.take_succ_cons]
   rw [List.take_append,List.take_of_length_le (by omega),show x.cells.length+p*7-x.cells.length=p*7 from by omega,ih p]
theorem slc_do {oo:Option Addr} {N d j:Nat} (hj:j≤d):∀ w,Sem.run Tryz.prog (Instr.slice 22 (.slice oo N d) none (some (.int .i64 (j:Int))) none) w=.ok (.slice (cutP oo d 0 7) j d) w:=by
 intro w
 rw [run_slice_h (P:=Tryz.prog) (t:=22) (ht:=by kernel_rfl) (a:=oo) (len:=N) (cap:=d) (kh:=.i64) (h:=(j:Int)) (h0:=by omega) (h2:=by omega)]
 simp [sliced,cutP,go_sem]
theorem told_ok {w0 w':World} {lo n:Nat} {l:List DT} {ls:List LT} {b:Bs} (tin:TIn w' lo l n ls) (hd:∀ x∈l,DIn w' x) (hls:lns ls=lnsB b.l) (hb:BInv b) (hn:n≤120) (_:Below w0.heap.size w0 w'):LnsIn w' ls:=by
 intro x hx
 have hl:=tin.ln x hx
 obtain ⟨d,hdl,e1,e2,e3⟩:=hl.src
 have din:=hd d hdl
 have hs4:x.ser.length≤4:=by
  have h1:(x.ser,x.smp)∈lns ls:=List.mem_map_of_mem hx
  rw [hls] at h1
  obtain ⟨k,hk,e⟩:=List.mem_map.1 h1
  have h2:=wrongS_len (hb.kee k hk).sr.se
  rw [(Prod.mk.inj e).1] at h2
  exact h2
 have hc:x.smp.length≤x.pc∧x.pc≤9223372036854775807:=by
  have h5:=hl.few
  rcases hl.own.2 with ⟨hv,h0⟩ | ⟨g,cap,cur,hv,_,_,hcap,hmx,_⟩
  ·injection hv with _ h1 h2
   omega
  ·injection hv with _ h1 h2
   unfold maxLen at hmx
   omega
 refine ⟨by rw [e1,e2];exact din.seg,own_seg' hl.own,by rw [e1];exact din.fit,by omega,by have:=hl.few;omega,?_,hc,own_nil hl.own⟩
 intro h
 rw [e2] at h
 have:=din.nil h
 rw [e1,e3]
 exact this
set_option maxRecDepth 20000 in
set_option maxHeartbeats 8000000 in
theorem lexa_any (l:List DT) (ao:Option Addr) (n cap:Nat) (w:World) (hs:Seg w ao (dcells l)) (hd:∀ x∈l,DIn w x) (hn:n=l.length) (hcap:n≤cap) (hv:ErrV w) :
  Calls Tryz.prog 3 #[.slice ao n cap] w fun e w'=>e=.returned (.bool true)∧Below w.heap.size w w':=by
 have P0:=hide (lalive_any w hv)
 have HP:=hide (fun (W:World) (hb:Below w.heap.size w W)=>play_any l ao n cap W (hs.below hb) (fun x hx=>(hd x hx).below hb) hn (hv.below hb))
 have HS:=hide hs
 have HD:=hide hd
 have HN:=hide hn
 have HV:=hide hv
 clear hs hd hn hv
 go_enter Tryz.func3,Tryz.ntmps3
 go_wp2_with fail
 refine P0.out.mono ?_
 rintro e w1 ⟨rfl,b1⟩
 have P1:=hide (HP.out w1 b1)
 clear P0 HP
 go_wp2_with fail
 refine P1.out.mono ?_
 intro e w2 hh
 have HH:=hide hh
 clear hh P1
 rcases HH.out with ⟨h120,rfl,b2⟩ | ⟨h120,ro,oo,rn,rc,d,hz,sl,ys,rfl,hrow,hli,hhz,hout,hys,b2⟩
 ·have bel2:=below_step b2 b1
  have HB:Hid (∀ o,Below w.heap.size w (w2.alloc o)):=fun o=>bel2.alloc bel2.size _
  clear HH b2 bel2
  go_wp2
  go_ret
  exact ⟨rfl,HB.out _⟩
 ·have bel2:=below_step b2 b1
  have h4:=told4 hys
  obtain ⟨A,hA⟩:∃ A,A=(playB b0 (dns l)).2:=⟨_,rfl⟩
  have hto:=ahead_told l
  have hat:=fun i (h:i<l.length) (hk:(dtt l i).d.kind=4)=>ahead_at h hk
  have hfew:∀ a∈A,Few8 a.cs:=by rw [hA];exact play_few (dns l) b0 0 b0_inv few0 (by simp [dns];omega)
  rw [← hA] at hto hys hat
  have hf5:=fun i=>ahead_few (l:=l) (i:=i) h120
  rw [← HN.out] at hout h120 ⊢
  obtain ⟨W2,hW2⟩:∃ W2,W2=w2.alloc (.cells #[.slice ro rn rc,.int .i64 hz] 26):=⟨_,rfl⟩
  have b3:Below w2.heap.size w2 W2:=by rw [hW2];exact (Below.refl _ _).alloc (Nat.le_refl _) _
  have bel3:=below_step b3 bel2
  have HOut:=hide (hout.below b3)
  have HYs:=hide hys
  have HTo:=hide hto
  have HAt:=hide hat
  have HFew:=hide hfew
  have HF5:=hide hf5
  have H4:=hide h4
  have HW2:=hide hW2
  clear HH hrow hli hhz hout hys hA b2 b3 bel2 b1 hW2 hto hat hfew hf5 h4
  go_upto_region 4 with fail
  rw [← HW2.out]
  go_wp2
  go_loopw [27] (fun i wr=>∃ k:Nat,k≤n∧i=.int .i64 k∧Below W2.heap.size W2 wr) (fun i _=>n-(intOf i).toNat)
  case atStart=>exact ⟨0,Nat.zero_le _,rfl,Below.refl _ _⟩
  case round =>
   obtain ⟨k,hk,rfl,bel⟩:=hrel
   by_cases hlt:k<n
   ·have hkl:k<l.length:=by rw [← HN.out];exact hlt
    have belw:=below_step bel bel3
    obtain ⟨bb,off,hao,hbb,hcell⟩:=seg_do HS.out hkl
    obtain ⟨ob,ooff,hoo,hob,hocell⟩:=out_at HOut.out hlt
    obtain ⟨x,hx⟩:∃ x,x=dtt l k:=⟨_,rfl⟩
    obtain ⟨y,hy⟩:∃ y,y=ys.getD k at0:=⟨_,rfl⟩
    have cc:∀ i,i<7→wr.cell? ⟨bb,off+k*7+i,none⟩=x.cells[i]?:=fun i hi=>by rw [hx];exact (belw.cell (p:=⟨bb,_,none⟩) hbb).trans (hcell k hkl i hi)
    have hxl:x∈l:=by rw [hx,dtt_get hkl];exact List.getElem_mem hkl
    have hdin:DIn w x:=HD.out x hxl
    have hyl:=HOut.out.len
    have hky:k<ys.length:=by omega
    have hyg:y=ys[k]:=by rw [hy];simp [List.getD,List.getElem?_eq_getElem hky]
    have hym:y∈ys:=by rw [hyg];exact List.getElem_mem hky
    have hyA:A[k]?=some y.a:=by rw [← HYs.out,List.getElem?_map,List.getElem?_eq_getElem hky,hyg];rfl
    have hfy:Few8 y.a.cs:=HFew.out _ (by rw [← HYs.out];exact List.mem_map_of_mem hym)
    have anY:=HOut.out.ans y hym
    have hask:x.d.kind=4→y.a=askB (ahead l k) x.d.tx x.d.till:=fun h=>by
     have h1:=HAt.out k hkl (by rw [← hx];exact h)
     rw [hyA,← hx] at h1
     injection h1
    obtain ⟨K,hK⟩:∃ K,K=x.d.kind:=⟨_,rfl⟩
    obtain ⟨m,hm⟩:∃ m,m=x.d.se.length:=⟨_,rfl⟩
    obtain ⟨E,hE⟩:∃ E,E=y.a.err:=⟨_,rfl⟩
    obtain ⟨Ps,hPs⟩:∃ Ps,Ps=y.a.pos:=⟨_,rfl⟩
    obtain ⟨M,hM⟩:∃ M,M=y.cts.length:=⟨_,rfl⟩
    obtain ⟨tl,htl⟩:∃ tl,tl=x.d.till:=⟨_,rfl⟩
    obtain ⟨tx,htx⟩:∃ tx,tx=x.d.tx:=⟨_,rfl⟩
    have q0:wr.cell? ⟨bb,off+k*7,none⟩=some (.int .i64 K):=by rw [hK];exact cc 0 (by omega)
    have q1:wr.cell? ⟨bb,off+k*7+1,none⟩=some (.int .i64 x.d.tier):=cc 1 (by omega)
    have q2:wr.cell? ⟨bb,off+k*7+2,none⟩=some (.int .i64 tl):=by rw [htl];exact cc 2 (by omega)
    have q3:wr.cell? ⟨bb,off+k*7+3,none⟩=some (.slice x.sa m x.sc):=by rw [hm];exact cc 3 (by omega)
    have q4:wr.cell? ⟨bb,off+k*7+4,none⟩=some (.int .i64 x.d.t):=cc 4 (by omega)
    have q5:wr.cell? ⟨bb,off+k*7+5,none⟩=some (.int .i64 x.d.v):=cc 5 (by omega)
    have q6:wr.cell? ⟨bb,off+k*7+6,none⟩=some (.string tx):=by rw [htx];exact cc 6 (by omega)
    have htxs:tx.size≤9223372036854775807:=by rw [htx];exact hdin.txs
    have oc:∀ j,j<4→W2.cell? ⟨ob,ooff+k*4+j,none⟩=y.cells[j]?:=fun j hj=>by rw [hy];exact hocell j hj
    have o0:W2.cell? ⟨ob,ooff+k*4,none⟩=some (.int .i64 E):=by rw [hE];exact oc 0 (by omega)
    have o1:W2.cell? ⟨ob,ooff+k*4+1,none⟩=some (.int .i64 Ps):=by rw [hPs];exact oc 1 (by omega)
    have o2:W2.cell? ⟨ob,ooff+k*4+2,none⟩=some (.slice y.co M y.cap):=by rw [hM];exact oc 2 (by omega)
    have HAns:Hid (∀ W,Below W2.heap.size W2 W→W.cell? ⟨ob,ooff+k*4,none⟩=some (.int .i64 E)∧W.cell? ⟨ob,ooff+k*4+1,none⟩=some (.int .i64 Ps)∧W.cell? ⟨ob,ooff+k*4+2,none⟩=some (.slice y.co M y.cap)):=fun W hb=>⟨(hb.cell (p:=⟨ob,_,none⟩) hob).trans o0,(hb.cell (p:=⟨ob,_,none⟩) hob).trans o1,(hb.cell (p:=⟨ob,_,none⟩) hob).trans o2⟩
    have hki:(k:Int)<(n:Int):=by omega
    obtain ⟨V0,hV0⟩:∃ V0,V0=wr.alloc (.cells #[.int .i64 K,.int .i64 x.d.tier,.int .i64 tl,.slice x.sa m x.sc,.int .i64 x.d.t,.int .i64 x.d.v,.string tx] 36):=⟨_,rfl⟩
    have bV0:Below wr.heap.size wr V0:=by rw [hV0];exact (Below.refl _ _).alloc (Nat.le_refl _) _
    have D0:V0.heap[wr.heap.size]?=some (.cells #[.int .i64 K,.int .i64 x.d.tier,.int .i64 tl,.slice x.sa m x.sc,.int .i64 x.d.t,.int .i64 x.d.v,.string tx] 36 (0,0)):=by rw [hV0];exact heap_alloc_new wr _
    obtain ⟨D,hD⟩:∃ D,D=wr.heap.size:=⟨_,rfl⟩
    rw [← hD] at D0
    have bel0:=below_step bV0 bel
    obtain ⟨d0,d1,d2,d3,d4,d5,d6⟩:=seven_cells D0
    have HV0:=hide hV0
    have HDD:=hide hD
    have HAsk:Hid (K=4→(E,Ps,y.a.cs)=((askB (ahead l k) tx tl).err,(askB (ahead l k) tx tl).pos,(askB (ahead l k) tx tl).cs)):=fun h=>by
     rw [hE,hPs,htx,htl,hask (by rw [← hK];exact h)]
    have HAnY:=hide anY
    have HFy:=hide hfy
    have HM:=hide hM
    subst hao
    subst hoo
    clear hcell hocell cc hx hy hxl hdin hyl hky hyg hym hyA hfy anY hask hK hm hE hPs hM htl htx oc o0 o1 o2 hV0 bV0 hD
    go_upto_region 9 with fail
    rw [← HV0.out,← HDD.out]
    by_cases hK4:K=4
    ·subst hK4
     have hA4:=HAsk.out rfl
     have HA4:=hide hA4
     clear HAsk hA4
     have PP:=hide (parse_any tx V0 htxs (HV.out.below (below_step bel0 bel3)))
     go_wp2_with fail
     refine PP.out.mono ?_
     intro e w4 hh
     obtain ⟨hp,b4⟩:=hh
     have bel4:=below_step b4 bel0
     obtain ⟨k0,k1,k2,wd,a1,n1,c1,a2,n2,c2,a3,n3,c3,f0,f1,rfl,HPp⟩:∃ (k0 k1 k2:Int) (wd:ByteArray) (a1:Option Addr) (n1 c1:Nat) (a2:Option Addr) (n2 c2:Nat) (a3:Option Addr) (n3 c3:Nat) (f0 f1:Int),e=.returned (.tuple #[.agg #[.int .i64 k0,.int .i64 k1,.int .i64 k2,.string wd,.slice a1 n1 c1,.slice a2 n2 c2,.slice a3 n3 c3],.agg #[.int .i64 f0,.int .i64 f1]]) ∧
       Hid ((f0=0∧∃ t:ET,prs tx.data.toList=.ok t.ex∧eval t=.agg #[.int .i64 k0,.int .i64 k1,.int .i64 k2,.string wd,.slice a1 n1 c1,.slice a2 n2 c2,.slice a3 n3 c3]∧t.In w4)∨(f0≠0∧∃ f:Flt,prs tx.data.toList=.error f∧f0=f.1∧f1=((tx.size-f.2:Nat):Int))):=by
      rcases hp with ⟨t,h1,h2,h3⟩ | ⟨f,h1,h2⟩
      ·refine ⟨_,_,_,_,_,_,_,_,_,_,_,_,_,0,0,?_,.inl ⟨rfl,t,h1,rfl,h3.whole⟩⟩
       rw [h2];rfl
      ·have hz:=nz_prs tx.data.toList
       rw [h1] at hz
       exact ⟨0,0,0,⟨#[]⟩,none,0,0,none,0,0,none,0,0,f.1,_,h2,.inr ⟨hz f rfl,f,h1,rfl,rfl⟩⟩
     obtain ⟨W5,hW5⟩:∃ W5,W5=(w4.alloc (.cells #[.int .i64 k0,.int .i64 k1,.int .i64 k2,.string wd,.slice a1 n1 c1,.slice a2 n2 c2,.slice a3 n3 c3] 41)).alloc (.cells #[.int .i64 f0,.int .i64 f1] 43):=⟨_,rfl⟩
     have bb5:Below w4.heap.size w4 W5:=by rw [hW5];exact ((Below.refl _ _).alloc (Nat.le_refl _) _).alloc (by simp) _
     have X5:W5.heap[w4.heap.size]?=some (.cells #[.int .i64 k0,.int .i64 k1,.int .i64 k2,.string wd,.slice a1 n1 c1,.slice a2 n2 c2,.slice a3 n3 c3] 41 (0,0)):=by rw [hW5,Below.heap_alloc _ _ _ (by simp)];exact heap_alloc_new w4 _
     have F5:W5.heap[w4.heap.size+1]?=some (.cells #[.int .i64 f0,.int .i64 f1] 43 (0,0)):=by
      have:=heap_alloc_new (w4.alloc (.cells #[.int .i64 k0,.int .i64 k1,.int .i64 k2,.string wd,.slice a1 n1 c1,.slice a2 n2 c2,.slice a3 n3 c3] 41)) (.cells #[.int .i64 f0,.int .i64 f1] 43)
      rw [hW5];simpa using this
     have bel5:=below_step bb5 bel4
     have D5:=below_block (below_step bb5 b4) D0
     obtain ⟨X,hX⟩:∃ X,X=w4.heap.size:=⟨_,rfl⟩
     rw [← hX] at X5 F5
     obtain ⟨z0,z1,z2⟩:=HAns.out W5 bel5
     obtain ⟨g0,g1,-⟩:=two_cells F5
     obtain ⟨x0,x1,x2,x3,x4,x5,x6⟩:=seven_cells X5
     obtain ⟨s0,s1,s2,s3,s4,s5,s6⟩:=seven_cells D5
     have HW5:=hide hW5
     have HX:=hide hX
     have HB5:=hide bb5
     clear PP hp b4 bel4 hW5 hX D0 d0 d1 d2 d3 d4 d5 d6 q0 q1 q2 q3 q4 q5 q6
     go_upto_region 11 with fail
     rw [← HW5.out,← HX.out]
     rcases HPp.out with ⟨hf0,t,hpr,hev,hin⟩ | ⟨hf0,f,hpr,hff,hff1⟩
     ·subst hf0
      have hAn:askB (ahead l k) tx tl=anE (ahead l k) tl t.ex:=by unfold askB;rw [hpr]
      have hA5:=HA4.out
      rw [hAn] at hA5
      have hex:=an_exact (ahead_inv l k) (HF5.out k) tl t.ex
      have hE1:E=(anE (ahead l k) tl t.ex).err:=(Prod.mk.inj hA5).1
      have hCs:y.a.cs=(anE (ahead l k) tl t.ex).cs:=(Prod.mk.inj (Prod.mk.inj hA5).2).2
      rw [← hE1,← hCs] at hex
      obtain ⟨R,hR⟩:∃ R,R=GrainU.ask (lnsB (ahead l k).l) t.ex tl:=⟨_,rfl⟩
      rw [← hR] at hex
      have HEx:=hide hex
      have hcapk:k≤cap:=by omega
      obtain ⟨co',hco'⟩:∃ co',co'=cutP (some ⟨bb,off,none⟩) cap 0 7:=⟨_,rfl⟩
      have SL:=slc_do (oo:=some ⟨bb,off,none⟩) (N:=n) hcapk
      rw [← hco'] at SL
      have hseg:∀ W,Below w.heap.size w W→Seg W co' (dcells (l.take k)):=fun W hb=>by
       have h1:=seg_cutP (n:=n) (p1:=0) (p2:=k) (pc:=cap) (s:=7) (HS.out.below hb) (by rw [dcells_length,HN.out]) hcap (Nat.zero_le _) (by omega)
       rw [← hco',dcells_take] at h1
       simpa using h1
      have PT:Hid (∀ W,Below W5.heap.size W5 W→Calls Tryz.prog 17 #[.slice co' k cap,.slice (some ⟨ob,ooff,none⟩) n d] W fun e w'=>∃ (to':Option Addr) (N d:Nat) (ls:List LT),e=.returned (.slice to' N d)∧Hid (N=ls.length∧Seg w' to' (tcells ls)∧LnsIn w' ls∧lns ls=lnsB (ahead l k).l)∧Below W.heap.size W w'):=fun W hb=>by
       have hbw:=below_step hb (below_step bel5 bel3)
       have hdW:∀ x∈l.take k,DIn W x:=fun x hx=>(HD.out x (List.mem_of_mem_take hx)).below hbw
       refine (told_any (l.take k) ys A co' (some ⟨ob,ooff,none⟩) k cap n d _ W (hseg W hbw) hdW (by simp;omega) (HOut.out.below (below_step hb bel5)) HYs.out (by omega) (by omega) (fun j hj h1 h2=>by
        rw [dtt_take hj] at h1 ⊢
        exact H4.out j (by omega) h1 h2)).mono ?_
       rintro e w' ⟨to',N,d',ls,rfl,own,tin,hls,hb'⟩
       have hls2:lns ls=lnsB (ahead l k).l:=by rw [hls];exact HTo.out k
       refine ⟨to',N,d',ls,rfl,⟨by have:=own.1;rw [tcells_length'] at this;omega,own_seg' own,told_ok tin (fun x hx=>(hdW x hx).below hb') hls2 (ahead_inv l k) (by omega) hb',hls2⟩,hb'⟩
      have PM:Hid (∀ (W:World) (to':Option Addr) (N d:Nat) (ls:List LT),Below W5.heap.size W5 W→Hid (N=ls.length∧Seg W to' (tcells ls)∧LnsIn W ls∧lns ls=lnsB (ahead l k).l)→Calls Tryz.prog 16 #[.slice to' N d,.agg #[.int .i64 k0,.int .i64 k1,.int .i64 k2,.string wd,.slice a1 n1 c1,.slice a2 n2 c2,.slice a3 n3 c3],.int .i64 tl] W fun e w'=>∃ cts co N d,e=.returned (.tuple #[.slice co N d,.int .i64 R.2])∧Hid (cls cts=R.1∧N=cts.length∧CsIn w' co cts)∧Below W.heap.size W w'):=fun W to' N d' ls hb hh=>by
       obtain ⟨hN,hsg,hln,hls⟩:=hh.out
       have h1:=mask_any ls t tl to' N d' W hsg hln (ET.In.below (below_step hb HB5.out) t hin) hN
       rw [hls,← hR,hev] at h1
       refine h1.mono ?_
       rintro e w' ⟨cts,co,N,d,h2,h3,h4,h5,h6⟩
       exact ⟨cts,co,N,d,h2,⟨h3,h4,h5⟩,h6⟩
      have HSS:Hid (∀ w',Below W5.heap.size W5 w'→(w'.cell? ⟨X,0,none⟩=some (.int .i64 k0)∧w'.cell? ⟨X,1,none⟩=some (.int .i64 k1)∧w'.cell? ⟨X,2,none⟩=some (.int .i64 k2)∧w'.cell? ⟨X,3,none⟩=some (.string wd)∧w'.cell? ⟨X,4,none⟩=some (.slice a1 n1 c1)∧w'.cell? ⟨X,5,none⟩=some (.slice a2 n2 c2)∧w'.cell? ⟨X,6,none⟩=some (.slice a3 n3 c3))∧w'.cell? ⟨D,2,none⟩=some (.int .i64 tl)):=fun w' hb'=>by
       have h1:=below_block hb' X5
       have h2:=below_block hb' D5
       refine ⟨⟨?_,?_,?_,?_,?_,?_,?_⟩,?_⟩
       ·simp [World.cell?,h1]
       ·simp [World.cell?,h1]
       ·simp [World.cell?,h1]
       ·simp [World.cell?,h1]
       ·simp [World.cell?,h1]
       ·simp [World.cell?,h1]
       ·simp [World.cell?,h1]
       ·simp [World.cell?,h2]
      have R0:Below W5.heap.size W5 W5.drew:=below_drewN (Below.refl _ _) 1
      clear HPp hpr hev hin hAn hA5 hex hE1 hCs hR hco' hseg HA4
      go_upto_region 14 with fail
      go_cut [10,11] from 62 to 73 (fun cv ev wx=>∃ (cts:List CT) (co:Option Addr) (N9 d9:Nat),cv=.slice co N9 d9∧ev=.int .i64 R.2∧cls cts=R.1∧N9=cts.length∧CsIn wx co cts∧Below W5.heap.size W5 wx)
      case first =>
       clear HAns HAnY HFy HM HEx HTo HAt HFew HF5 H4 HYs HOut HS HD HN HV HB5 HW5 HX HV0 HDD HW2
       go_region_held3 (fun w'=>(w'.cell? ⟨X,0,none⟩=some (.int .i64 k0)∧w'.cell? ⟨X,1,none⟩=some (.int .i64 k1)∧w'.cell? ⟨X,2,none⟩=some (.int .i64 k2)∧w'.cell? ⟨X,3,none⟩=some (.string wd)∧w'.cell? ⟨X,4,none⟩=some (.slice a1 n1 c1)∧w'.cell? ⟨X,5,none⟩=some (.slice a2 n2 c2)∧w'.cell? ⟨X,6,none⟩=some (.slice a3 n3 c3))∧w'.cell? ⟨D,2,none⟩=some (.int .i64 tl)) (exact HSS.out _ (by with_reducible assumption))
        (first
         | (go_at_call 17;refine (PT.out _ (by with_reducible assumption)).mono ?_;rintro e w6 ⟨to6,N6,d6',ls6,rfl,H6,b6⟩;have R6:=below_step b6 (by with_reducible assumption))
         | (go_at_call 16;refine (PM.out _ to6 N6 d6' ls6 R6 H6).mono ?_;rintro e w7 ⟨cts,co7,N7,d7,rfl,H7,b7⟩;have R7:=below_step b7 R6))
       all_goals
        clear HSS PT PM R0
        go_wp2_with fail
        go_meet
        exact ⟨cts,co7,N7,d7,rfl,rfl,H7.out.1,H7.out.2.1,H7.out.2.2,R7⟩
      case rest =>
       obtain ⟨cts,co9,N9,d9,rfl,rfl,hc9,hN9,cs9,b9⟩:=hcut
       obtain ⟨z0,z1,z2⟩:=HAns.out wc (below_step b9 bel5)
       have bel9:=below_step b9 bel5
       by_cases hE10:E=10
       ·have HBx:=hide bel9
        subst hE10
        clear HSS PT PM HEx hc9 hN9 cs9
        go_wp2
        go_roundw
        case rel=>exact ⟨k+1,by omega,by go_num,HBx.out⟩
        case measure=>simp [intOf];omega
       ·obtain ⟨hER,hCR⟩:=HEx.out.resolve_left hE10
        have nE:(E == 10)=false:=by simpa using hE10
        have anY9:=HAnY.out.below bel9
        have hcl:cls y.cts=cls cts:=by rw [anY9.cs,hCR,hc9]
        obtain ⟨f1',f2'⟩:=few_cts anY9 HFy.out
        have PS:=hide (rsamec_any y.cts cts y.co co9 M N9 y.cap d9 wc anY9.inn cs9 HM.out hN9 hcl (fun c hc=>by have:=f2' c hc;omega) (by rw [HM.out];omega))
        have hEE:(R.2 != R.2)=false:=by simp
        subst hER
        clear HSS PT PM HEx hc9 hN9 cs9 anY9 hcl f1' f2' hCR
        go_wp2_with fail
        refine PS.out.mono ?_
        rintro e w10 ⟨rfl,b10⟩
        have bel10:=below_step b10 bel9
        clear PS
        go_wp2
        go_roundw
        case rel=>exact ⟨k+1,by omega,by go_num,bel10⟩
        case measure=>simp [intOf];omega
     ·have hAn:askB (ahead l k) tx tl=⟨f.1,((tx.size-f.2:Nat):Int),[],0⟩:=by unfold askB;rw [hpr]
      have hA5:=HA4.out
      rw [hAn] at hA5
      have hE1:E=f0:=by rw [hff];exact (Prod.mk.inj hA5).1
      have hP1:Ps=f1:=by rw [hff1];exact (Prod.mk.inj (Prod.mk.inj hA5).2).1
      subst hE1
      subst hP1
      have nf:(E == 0)=false:=by simpa using hf0
      have nf2:(E != 0)=true:=by simpa using hf0
      have e1:(E != E)=false:=by simp
      have e2:(Ps != Ps)=false:=by simp
      clear HPp hpr hff hff1 hf0 hAn hA5 HA4
      go_upto_region 12 with fail
      go_quiet (fail)
      go_wp2
      go_roundw
      case rel=>exact ⟨k+1,by omega,by go_num,below_drewN bel5 _⟩
      case measure=>simp [intOf];omega
    ·have nK:(K != 4)=true:=by simpa using hK4
     have nK2:(K == 4)=false:=by simpa using hK4
     clear HAsk hK4
     go_wp2
     go_roundw
     case rel=>exact ⟨k+1,by omega,by go_num,bel0⟩
     case measure=>simp [intOf];omega
   ·have belz:=below_step bel bel3
    go_wp2
    go_ret
    exact ⟨rfl,belz⟩
end Go.Proofs.YtoldmigappbjcaaGreatDoor
