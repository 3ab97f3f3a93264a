import Derived.Below
import Derived.ChangeOld
import Derived.Deep.CutBlock
import Derived.Deep.CutRange
import Derived.Deep.RegionHeld3
import Derived.Deep.RegionLaw
import Derived.Deep.Slices
import Derived.OpenShut
import Derived.ProofKit
import Derived.SizedLaws
import Derived.Test.YtoldmigappbjcaaGreatDoorBaseRight01
import Derived.Test.YtoldmigappbjcaaGreatDoorK01
import Derived.Test.YtoldmigappbjcaaGreatDoorK05
import Derived.Test.YtoldmigappbjcaaGreatDoorK14
import Derived.Test.YtoldmigappbjcaaGreatDoorK16
import Derived.Test.YtoldmigappbjcaaGreatDoorK20
import Derived.Test.YtoldmigappbjcaaGreatDoorK26
import Derived.Test.YtoldmigappbjcaaGreatDoorK31
import Derived.Test.YtoldmigappbjcaaGreatDoorRows
namespace Go.Proofs.YtoldmigappbjcaaGreatDoor
open Go.RowKit Go.GrainU
theorem out_at {w:World} {lo n d:Nat} {oo:Option Addr} {ys:List AT} (h:OutS w lo (.slice oo n d) n ys) {k:Nat} (hk:k<n) :
  ∃ b off,oo=some ⟨b,off,none⟩∧b<w.heap.size∧∀ j,j<4→w.cell? ⟨b,off+k*4+j,none⟩=(ys.getD k at0).cells[j]?:=by
 have hl:=h.len
 have hal:=acells4_length ys
 rcases own_seg' h.own with h0 | ⟨b,off,h1,h2⟩
 ·rw [h0] at hal
  simp at hal
  omega
 ·have hc:∀ j,j<4→w.cell? ⟨b,off+k*4+j,none⟩=(ys.getD k at0).cells[j]?:=fun j hj=>by
   rw [show (ys.getD k at0).cells[j]?=(acells4 ys)[k*4+j]? from (acells4_at ys k j (by omega) hj).symm,Nat.add_assoc];exact h2 (k*4+j) (by omega)
  exact ⟨b,off,h1,World.block_lt_of_cell? w ⟨b,off+k*4+0,none⟩ (u:=.int .i64 (ys.getD k at0).a.err) (hc 0 (by omega)),hc⟩
end Go.Proofs.YtoldmigappbjcaaGreatDoor
namespace Go.GrainU
open Go.RowKit
theorem seg_of {α:Type} {W:World} {b off len c:Nat} (hc:0<c) (f:Nat→α) (cell:α→List Value) (hcl:∀ x,(cell x).length=c)
  (h:∀ i,i<len→∀ j,j<c→W.cell? ⟨b,off+(i*c+j),none⟩=(cell (f i))[j]?):Seg W (some ⟨b,off,none⟩) ((List.range len).flatMap fun i=>cell (f i)):=by
 refine .inr ⟨b,off,rfl,fun j hj=>?_⟩
 have hl:∀ n,((List.range n).flatMap fun i=>cell (f i)).length=n*c:=by
  intro n
  induction n with
  | zero=>simp
  | succ n ih=>rw [List.range_succ,List.flatMap_append,List.length_append,ih];simp [hcl,Nat.add_mul]
 rw [hl] at hj
 have hat:∀ n i,i<n→∀ q,q<c→((List.range n).flatMap fun i=>cell (f i))[i*c+q]?=(cell (f i))[q]?:=by
  intro n
  induction n with
  | zero=>intro i hi;omega
  | succ n ih =>
   intro i hi q hq
   rw [List.range_succ,List.flatMap_append]
   have hle:(i+1)*c≤(n+1)*c:=Nat.mul_le_mul_right c (by omega)
   rw [Nat.add_mul] at hle
   by_cases e:i<n
   ·have h2:(i+1)*c≤n*c:=Nat.mul_le_mul_right c (by omega)
    rw [Nat.add_mul] at h2
    rw [List.getElem?_append_left (by rw [hl];omega)]
    exact ih i e q hq
   ·have e':i=n:=by omega
    subst e'
    rw [List.getElem?_append_right (by rw [hl];omega),hl,show i*c+q-i*c=q from by omega]
    simp
 have hq:j%c<c:=Nat.mod_lt _ hc
 have hd:j / c<len:=Nat.div_lt_of_lt_mul (by rw [Nat.mul_comm];exact hj)
 have hm:j / c*c+j%c=j:=by rw [Nat.mul_comm];exact Nat.div_add_mod j c
 have h1:=hat len (j / c) hd (j%c) hq
 have h2:=h (j / c) hd (j%c) hq
 rw [hm] at h1 h2
 rw [h1,h2]
open Go.RowKit
theorem list7 {α:Type} {l:List α} (h:l.length=7):∃ a b c d e f g,l=[a,b,c,d,e,f,g]:=by
 match l,h with
 | [a,b,c,d,e,f,g],_=>exact ⟨a,b,c,d,e,f,g,rfl⟩
theorem weights_mem_all {H:Type} {P:Program} {e:TypeId} {l:List (DataW H)} {d:DataW H} (h:d∈l):∀ n∈d.weights P e,n∈DataW.weightsAll P e l:=by
 induction l with
 | nil=>cases h
 | cons a r ih =>
  intro n hn
  simp only [DataW.weightsAll,List.mem_append]
  rcases List.mem_cons.1 h with e | e
  ·rw [e] at hn;exact .inl hn
  ·exact .inr (ih e n hn)
end Go.GrainU
namespace Go.Proofs.YtoldmigappbjcaaGreatDoor
open Go.ChangeShapes Go.WideShapes Go.ChangeAt Go.RowKit Go.GrainU
theorem Tryz.laidOut:laidOutB Tryz.prog=true:=by kernel_rfl
theorem Tryz.cellsStr:Tryz.prog.cellsOf 9=1:=by kernel_rfl
theorem Tryz.cellsInt:Tryz.prog.cellsOf 3=1:=by kernel_rfl
theorem field_str {H:Type} {enc:TypeId×Value→H} {W:World} {n:Nat} {c:Value} {y:DataW H×List MemPlace} (h:DataW.trod enc Tryz.prog W 0 (fun _=>true) true n 9 [c]=some y) (hw:∀ k∈y.1.weights Tryz.prog 9,k≤reachBytes):∃ z:ByteArray,c=.string z∧z.size≤140737488355328:=by
 obtain ⟨z,hz,hy,_⟩:=DataW.trod_string Tryz.underlying9 h
 have:=hw z.data.toList.length (by rw [hy];exact List.mem_singleton.2 rfl)
 refine ⟨z,by simpa using hz,?_⟩
 have hr:reachBytes≤140737488355328:=by decide
 have e:z.size=z.data.toList.length:=by show z.data.size=_;exact Array.length_toList.symm
 omega
theorem field_i64 {H:Type} {enc:TypeId×Value→H} {W:World} {n:Nat} {c:Value} {y:DataW H×List MemPlace} (h:DataW.trod enc Tryz.prog W 0 (fun _=>true) true n 3 [c]=some y):∃ z,c=.int .i64 z:=by
 obtain ⟨z,hz,_,_⟩:=DataW.trod_int Tryz.underlying3 h
 exact ⟨z,by simpa using hz⟩
end Go.Proofs.YtoldmigappbjcaaGreatDoor
namespace Go.GrainU
open Go.RowKit
theorem lcells_flat (l:Lb):lcells l=l.flatMap fun x=>[.string x.1,.string x.2]:=by
 induction l with
 | nil=>rfl
 | cons x r ih=>simp [lcells,ih]
theorem list2 {α:Type} {l:List α} (h:l.length=2):∃ a b,l=[a,b]:=by
 match l,h with
 | [a,b],_=>exact ⟨a,b,rfl⟩
end Go.GrainU
namespace Go.Proofs.YtoldmigappbjcaaGreatDoor
open Go.ChangeShapes Go.WideShapes Go.ChangeAt Go.RowKit Go.GrainU
theorem Tryz.cellsLabel2:Tryz.prog.cellsOf 88=2:=by kernel_rfl
theorem Tryz.cellsSample2:Tryz.prog.cellsOf 34=2:=by kernel_rfl
theorem Tryz.cellsSeries:Tryz.prog.cellsOf 32=1:=by kernel_rfl
theorem Tryz.bytesLabel:Tryz.prog.bytesOf 88=32:=by kernel_rfl
theorem open_list2 {H:Type} {enc:TypeId×Value→H} {W:World} {α:Type} [Inhabited α] {fuel:Nat} {t e:TypeId} {cs:List Value} {x:DataW H×List MemPlace} (cell:α→List Value) (Q:α→Prop) (c:Nat) (hc:0<c) (hcl:∀ a,(cell a).length=c)
  (hcells:Tryz.prog.cellsOf e=c) (_hb:1≤Tryz.prog.bytesOf e) (ht:Tryz.prog.underlying t=some (.slice e)) (h:DataW.trod enc Tryz.prog W 0 (fun _=>true) true fuel t cs=some x) (hw:∀ n∈x.1.weights Tryz.prog t,n≤reachBytes)
  (each:∀ n cs' y,n<fuel→DataW.trod enc Tryz.prog W 0 (fun _=>true) true n e cs'=some y→(∀ k∈y.1.weights Tryz.prog e,k≤reachBytes)→∃ a,cs'=cell a∧Q a) :
  ∃ (l:List α) (ao:Option Addr) (cap:Nat),cs=[.slice ao l.length cap]∧Seg W ao (l.flatMap cell)∧(∀ a∈l,Q a)∧l.length≤cap∧l.length*Tryz.prog.bytesOf e≤reachBytes∧(ao=none→l.length=0∧cap=0)∧cap≤maxLen:=by
 rcases DataW.trod_slice ht h with ⟨hcs,_⟩ | ⟨a,len,cap,elems,rest,n,hn,hcs,hx,_,hl,hm,hlen,hel,hsp,hns⟩
 ·exact ⟨[],none,0,hcs,.inl rfl,fun a ha=>by (cases ha),Nat.le_refl _,by simp,fun _=>⟨rfl,rfl⟩,Nat.zero_le _⟩
 ·have hwt:∀ k,k∈(elems.length+rest.length)*Tryz.prog.bytesOf e::(DataW.weightsAll Tryz.prog e (elems.map (·.1))++DataW.weightsAll Tryz.prog e (rest.map (·.1)))→k≤reachBytes:=by
   intro k hk
   refine hw k ?_
   rw [hx]
   simp only [DataW.weights,ht]
   simpa using hk
  have hlb:len*Tryz.prog.bytesOf e≤reachBytes:=by
   have h1:=hwt _ (List.mem_cons_self ..)
   have h2:len*Tryz.prog.bytesOf e≤(elems.length+rest.length)*Tryz.prog.bytesOf e:=Nat.mul_le_mul_right _ (by omega)
   omega
  have ex:∀ i,i<len→∃ y:α,(∀ j,j<c→W.cell? (a.add (i*c+j))=(cell y)[j]?)∧Q y:=by
   intro i hi
   have h1:=hel i hi
   have hi':i<elems.length:=by omega
   rw [List.getElem?_eq_getElem hi',Option.bind_eq_some_iff] at h1
   obtain ⟨cs',h2,h3⟩:=h1
   rw [hcells] at h2
   obtain ⟨_,hlen',hcc⟩:=World.cells?_some h2
   obtain ⟨y,rfl,hq⟩:=each n cs' _ (by omega) h3 (fun k hk=>hwt k (List.mem_cons_of_mem _ (List.mem_append_left _ (weights_mem_all (List.mem_map_of_mem (List.getElem_mem hi')) k hk))))
   refine ⟨y,fun j hj=>?_,hq⟩
   have:=hcc j hj
   rw [Go.Deep.add_add] at this
   exact this
  obtain ⟨f,hf⟩:=Go.Deep.choose_lt ex
  refine ⟨(List.range len).map f,some a,cap,by simpa using hcs,?_,fun y hy=>?_,by simpa using hl,by simpa using hlb,fun h=>(by cases h),hm⟩
  ·rcases Nat.eq_zero_or_pos len with h0 | h0
   ·subst h0;exact .inl rfl
   ·obtain ⟨b,off,spot⟩:=a
    have hspot:spot=none:=by
     have h1:=(hf 0 h0).1 0 hc
     have h2:0<(cell (f 0)).length:=by rw [hcl];exact hc
     rw [List.getElem?_eq_getElem h2] at h1
     simp only [Nat.zero_mul,Nat.add_zero] at h1
     simpa [Addr.add] using World.cell?_spot h1
    subst hspot
    rw [List.flatMap_map]
    refine seg_of hc f cell hcl (fun i hi j hj=>?_)
    have:=(hf i hi).1 j hj
    rw [Go.WideShapes.add_plain] at this
    exact this
  ·obtain ⟨i,hi,rfl⟩:=List.mem_map.1 hy
   exact (hf i (by simpa using hi)).2
theorem open_lab {H:Type} {enc:TypeId×Value→H} {W:World} {n:Nat} {cs:List Value} {x:DataW H×List MemPlace}
  (h:DataW.trod enc Tryz.prog W 0 (fun _=>true) true n 88 cs=some x) (hw:∀ k∈x.1.weights Tryz.prog 88,k≤reachBytes):∃ k:ByteArray×ByteArray,cs=[.string k.1,.string k.2]∧k.1.size≤140737488355328∧k.2.size≤140737488355328:=by
 obtain ⟨xs,m,_,hx,hl,hlen,hf⟩:=DataW.trod_struct Tryz.underlying88 h
 rw [Tryz.cellsLabel2] at hl
 have hlen':xs.length=2:=hlen
 obtain ⟨c0,c1,rfl⟩:=list2 hl
 obtain ⟨x0,x1,rfl⟩:=list2 hlen'
 have g0:DataW.trod enc Tryz.prog W 0 (fun _=>true) true m 9 ((List.drop 0 [c0,c1]).take (Tryz.prog.cellsOf 9))=some x0:=hf 0 _ rfl
 have g1:DataW.trod enc Tryz.prog W 0 (fun _=>true) true m 9 ((List.drop 1 [c0,c1]).take (Tryz.prog.cellsOf 9))=some x1:=hf 1 _ rfl
 rw [Tryz.cellsStr] at g0 g1
 simp only [List.drop_zero,List.drop_succ_cons,List.take_succ_cons,List.take_zero] at g0 g1
 have hwe:∀ k,k∈DataW.weightsEach Tryz.prog [9,9] [x0.1,x1.1]→k≤reachBytes:=by
  intro k hk
  refine hw k ?_
  rw [hx]
  simp only [DataW.weights,Tryz.underlying88]
  exact hk
 obtain ⟨z0,rfl,s0⟩:=field_str g0 (fun k hk=>hwe k (DataW.weights_mem_each (j:=0) rfl rfl k hk))
 obtain ⟨z1,rfl,s1⟩:=field_str g1 (fun k hk=>hwe k (DataW.weights_mem_each (j:=1) rfl rfl k hk))
 exact ⟨⟨z0,z1⟩,rfl,s0,s1⟩
theorem open_smp {H:Type} {enc:TypeId×Value→H} {W:World} {n:Nat} {cs:List Value} {x:DataW H×List MemPlace}
  (h:DataW.trod enc Tryz.prog W 0 (fun _=>true) true n 34 cs=some x):∃ k:Int×Int,cs=[.int .i64 k.1,.int .i64 k.2]:=by
 obtain ⟨xs,m,_,hx,hl,hlen,hf⟩:=DataW.trod_struct Tryz.underlying34 h
 rw [Tryz.cellsSample2] at hl
 have hlen':xs.length=2:=hlen
 obtain ⟨c0,c1,rfl⟩:=list2 hl
 obtain ⟨x0,x1,rfl⟩:=list2 hlen'
 have g0:DataW.trod enc Tryz.prog W 0 (fun _=>true) true m 3 ((List.drop 0 [c0,c1]).take (Tryz.prog.cellsOf 3))=some x0:=hf 0 _ rfl
 have g1:DataW.trod enc Tryz.prog W 0 (fun _=>true) true m 3 ((List.drop 1 [c0,c1]).take (Tryz.prog.cellsOf 3))=some x1:=hf 1 _ rfl
 rw [Tryz.cellsInt] at g0 g1
 simp only [List.drop_zero,List.drop_succ_cons,List.take_succ_cons,List.take_zero] at g0 g1
 obtain ⟨z0,rfl⟩:=field_i64 g0
 obtain ⟨z1,rfl⟩:=field_i64 g1
 exact ⟨⟨z0,z1⟩,rfl⟩
end Go.Proofs.YtoldmigappbjcaaGreatDoor
namespace Go.GrainU
open Go.RowKit
theorem list6 {α:Type} {l:List α} (h:l.length=6):∃ a b c d e f,l=[a,b,c,d,e,f]:=by
 match l,h with
 | [a,b,c,d,e,f],_=>exact ⟨a,b,c,d,e,f,rfl⟩
end Go.GrainU
namespace Go.Proofs.YtoldmigappbjcaaGreatDoor
open Go.ChangeShapes Go.WideShapes Go.ChangeAt Go.RowKit Go.GrainU
theorem Tryz.cellsDo7:Tryz.prog.cellsOf 36=7:=by kernel_rfl
theorem Tryz.bytesDo:Tryz.prog.bytesOf 36=80:=by kernel_rfl
instance:Inhabited DT:=⟨⟨⟨0,0,0,[],0,0,⟨#[]⟩⟩,none,0⟩⟩
theorem dcells_flat (l:List DT):dcells l=l.flatMap DT.cells:=by
 induction l with
 | nil=>rfl
 | cons x r ih=>simp [dcells,ih]
theorem open_do {H:Type} {enc:TypeId×Value→H} {W:World} {n:Nat} {cs:List Value} {x:DataW H×List MemPlace}
  (h:DataW.trod enc Tryz.prog W 0 (fun _=>true) true n 36 cs=some x) (hw:∀ k∈x.1.weights Tryz.prog 36,k≤reachBytes):∃ k:DT,cs=k.cells∧DIn W k:=by
 obtain ⟨xs,m,_,hx,hl,hlen,hf⟩:=DataW.trod_struct Tryz.underlying36 h
 rw [Tryz.cellsDo7] at hl
 have hlen':xs.length=6:=hlen
 obtain ⟨c0,c1,c2,c3,c4,c5,c6,rfl⟩:=list7 hl
 obtain ⟨x0,x1,x2,x3,x4,x5,rfl⟩:=list6 hlen'
 have g0:DataW.trod enc Tryz.prog W 0 (fun _=>true) true m 3 ((List.drop 0 [c0,c1,c2,c3,c4,c5,c6]).take (Tryz.prog.cellsOf 3))=some x0:=hf 0 _ rfl
 have g1:DataW.trod enc Tryz.prog W 0 (fun _=>true) true m 3 ((List.drop 1 [c0,c1,c2,c3,c4,c5,c6]).take (Tryz.prog.cellsOf 3))=some x1:=hf 1 _ rfl
 have g2:DataW.trod enc Tryz.prog W 0 (fun _=>true) true m 3 ((List.drop 2 [c0,c1,c2,c3,c4,c5,c6]).take (Tryz.prog.cellsOf 3))=some x2:=hf 2 _ rfl
 have g3:DataW.trod enc Tryz.prog W 0 (fun _=>true) true m 32 ((List.drop 3 [c0,c1,c2,c3,c4,c5,c6]).take (Tryz.prog.cellsOf 32))=some x3:=hf 3 _ rfl
 have g4:DataW.trod enc Tryz.prog W 0 (fun _=>true) true m 34 ((List.drop 4 [c0,c1,c2,c3,c4,c5,c6]).take (Tryz.prog.cellsOf 34))=some x4:=hf 4 _ rfl
 have g5:DataW.trod enc Tryz.prog W 0 (fun _=>true) true m 9 ((List.drop 6 [c0,c1,c2,c3,c4,c5,c6]).take (Tryz.prog.cellsOf 9))=some x5:=hf 5 _ rfl
 rw [Tryz.cellsInt] at g0 g1 g2
 rw [Tryz.cellsSeries] at g3
 rw [Tryz.cellsSample2] at g4
 rw [Tryz.cellsStr] at g5
 simp only [List.drop_zero,List.drop_succ_cons,List.take_succ_cons,List.take_zero] at g0 g1 g2 g3 g4 g5
 have hwe:∀ k,k∈DataW.weightsEach Tryz.prog [3,3,3,32,34,9] [x0.1,x1.1,x2.1,x3.1,x4.1,x5.1]→k≤reachBytes:=by
  intro k hk
  refine hw k ?_
  rw [hx]
  simp only [DataW.weights,Tryz.underlying36]
  exact hk
 obtain ⟨z0,rfl⟩:=field_i64 g0
 obtain ⟨z1,rfl⟩:=field_i64 g1
 obtain ⟨z2,rfl⟩:=field_i64 g2
 obtain ⟨ls,sa,sc,e0,sg0,q0,l0,b0,n0,m0⟩:=open_list2 (α:=ByteArray×ByteArray) (fun x=>[.string x.1,.string x.2]) (fun k=>k.1.size≤140737488355328∧k.2.size≤140737488355328) 2 (by decide) (fun _=>rfl) Tryz.cellsLabel2 (by rw [Tryz.bytesLabel];decide) Tryz.underlying32 g3 (fun k hk=>hwe k (DataW.weights_mem_each (j:=3) rfl rfl k hk)) (fun n cs' y _ hy hwy=>open_lab hy hwy)
 obtain ⟨zs,hzs⟩:=open_smp g4
 obtain ⟨z5,rfl,s5⟩:=field_str g5 (fun k hk=>hwe k (DataW.weights_mem_each (j:=5) rfl rfl k hk))
 rw [← lcells_flat] at sg0
 simp at e0 hzs
 subst e0
 obtain ⟨rfl,rfl⟩:=hzs
 refine ⟨⟨⟨z0,z1,z2,ls,zs.1,zs.2,z5⟩,sa,sc⟩,rfl,⟨sg0,?_,n0,by show z5.size≤_;omega⟩⟩
 intro k hk
 have hk':k<ls.length:=hk
 have e:lk ls k=(ls[k]).1∧lv ls k=(ls[k]).2:=by simp [lk,lv,List.getD,List.getElem?_eq_getElem hk']
 have:=q0 _ (List.getElem_mem hk')
 show (lk ls k).size≤_∧(lv ls k).size≤_
 rw [e.1,e.2]
 omega
theorem open_dos {H:Type} {enc:TypeId×Value→H} {W:World} {fuel:Nat} {cs:List Value} {x:DataW H×List MemPlace}
  (h:DataW.trod enc Tryz.prog W 0 (fun _=>true) true fuel 22 cs=some x) (hw:∀ k∈x.1.weights Tryz.prog 22,k≤reachBytes) :
  ∃ (l:List DT) (ao:Option Addr) (cap:Nat),cs=[.slice ao l.length cap]∧Seg W ao (dcells l)∧(∀ x∈l,DIn W x)∧l.length*80≤140737488355328:=by
 obtain ⟨l,ao,cap,e,sg,q,_,b,_,_⟩:=open_list2 (α:=DT) DT.cells (fun x=>DIn W x) 7 (by decide) (fun _=>rfl) Tryz.cellsDo7 (by rw [Tryz.bytesDo];decide) Tryz.underlying22 h hw (fun n cs' y _ hy hwy=>open_do hy hwy)
 rw [← dcells_flat] at sg
 rw [Tryz.bytesDo] at b
 have hr:reachBytes≤140737488355328:=by decide
 exact ⟨l,ao,cap,e,sg,q,by omega⟩
end Go.Proofs.YtoldmigappbjcaaGreatDoor
namespace Go.GrainU
open Go.RowKit
theorem lpos_eq {s:Lb}:∀ {o:List Ln} {j:Nat},(∀ i,i<j→cmpS (lser o i) s<0)→j≤o.length→(j=o.length∨¬ cmpS (lser o j) s<0)→lpos o s=j
 | [],j,_,hj,_=>by
  have:j=0:=by simpa using hj
  subst this;rfl
 | x::r,0,_,_,h2=>by
  have h3:¬ cmpS x.1 s<0:=by
   rcases h2 with h | h
   ·simp at h
   ·simpa [lser] using h
  simp [lpos,h3]
 | x::r,j+1,h1,hj,h2=>by
  have h3:cmpS x.1 s<0:=by simpa [lser] using h1 0 (by omega)
  have ih:=lpos_eq (s:=s) (o:=r) (j:=j) (fun i hi=>by simpa [lser] using h1 (i+1) (by omega)) (by simpa using hj) (by
   rcases h2 with h | h
   ·left;simpa using h
   ·right;simpa [lser] using h)
  unfold lpos at ih ⊢
  simp only [List.takeWhile_cons,h3,decide_true,if_true,List.length_cons,ih]
theorem tell_in {a b:List Ln} {s:Lb} {A:List (Int×Int)} {x:Int×Int} (hl:lpos (a++[(s,A)]++b) s=a.length):tellP (a++[(s,A)]++b) s x=a++[(s,A++[x])]++b:=by
 have hh:lhas (a++[(s,A)]++b) s=true:=by
  unfold lhas
  rw [hl]
  simp [lnn,List.getD,cmpS_self]
 unfold tellP
 rw [if_pos hh,hl]
 simp [lnn,List.getD]
theorem tell_new {a b:List Ln} {s:Lb} {x:Int×Int} (hl:lpos (a++b) s=a.length) (hn:b=[]∨cmpS (lser b 0) s≠0):tellP (a++b) s x=a++[(s,[x])]++b:=by
 have hh:¬ lhas (a++b) s=true:=by
  unfold lhas
  rw [hl]
  rcases hn with h | h
  ·subst h;simp
  ·intro hc
   simp only [Bool.and_eq_true,decide_eq_true_eq] at hc
   apply h
   have:=hc.2
   rw [show (lnn (a++b) a.length).1=lser b 0 from by simp [lnn,lser,List.getD,List.getElem?_append_right (Nat.le_refl a.length)]] at this
   exact this
 unfold tellP
 rw [if_neg hh,hl]
 simp
end Go.GrainU
namespace Go.Proofs.YtoldmigappbjcaaGreatDoor
open Go.RowKit Go.GrainU
def lblk (x:LT):Option Nat:=(Value.slice x.pa x.smp.length x.pc).ownBlock
def Apart (x y:LT):Prop:=∀ g,lblk x=some g→lblk y≠some g
theorem Apart.symm {x y:LT} (h:Apart x y):Apart y x:=fun g h1 h2=>h g h2 h1
theorem apart_mid {a b:List LT} {y:LT} (h:(a++b).Pairwise Apart) (hy:∀ x∈a++b,Apart x y):(a++[y]++b).Pairwise Apart:=by
 rw [List.pairwise_append] at h
 rw [List.append_assoc,List.pairwise_append]
 refine ⟨h.1,?_,?_⟩
 ·rw [List.singleton_append,List.pairwise_cons]
  exact ⟨fun x hx=>(hy x (List.mem_append_right _ hx)).symm,h.2.1⟩
 ·intro x hx z hz
  rw [List.singleton_append] at hz
  rcases List.mem_cons.1 hz with e | e
  ·rw [e];exact hy x (List.mem_append_left _ hx)
  ·exact h.2.2 x hx z e
theorem apart_drop {a b:List LT} {y:LT} (h:(a++[y]++b).Pairwise Apart):(a++b).Pairwise Apart∧∀ x∈a++b,Apart x y:=by
 rw [List.append_assoc,List.pairwise_append,List.singleton_append,List.pairwise_cons] at h
 obtain ⟨h1,⟨h2,h3⟩,h4⟩:=h
 refine ⟨List.pairwise_append.2 ⟨h1,h3,fun x hx z hz=>h4 x hx z (List.mem_cons_of_mem _ hz)⟩,fun x hx=>?_⟩
 rcases List.mem_append.1 hx with e | e
 ·exact h4 x e y (List.mem_cons_self ..)
 ·exact (h2 x e).symm
structure LOwn (w:World) (lo:Nat) (l:List DT) (m:Nat) (x:LT):Prop where
 own:w.ownsRow lo 34 2 (.slice x.pa x.smp.length x.pc) x.smp.length (scells x.smp)
 src:∃ d∈l,x.ser=d.d.se∧x.sa=d.sa∧x.sc=d.sc
 few:x.smp.length≤m
structure TIn (w:World) (lo:Nat) (l:List DT) (m:Nat) (ls:List LT):Prop where
 ln:∀ x∈ls,LOwn w lo l m x
 dis:ls.Pairwise Apart
theorem LOwn.below {w w':World} {lo m:Nat} {l:List DT} {x:LT} (h:LOwn w lo l m x) (hb:Below w.heap.size w w'):LOwn w' lo l m x:=⟨own_below h.own hb,h.src,h.few⟩
theorem LOwn.mono {w:World} {lo m m':Nat} {l:List DT} {x:LT} (h:LOwn w lo l m x) (hm:m≤m'):LOwn w lo l m' x:=⟨h.own,h.src,Nat.le_trans h.few hm⟩
theorem LOwn.grow {w w':World} {lo m:Nat} {l:List DT} {x:LT} {r:Option Nat} (h:LOwn w lo l m x) (hg:w.grownBy w' r) (hne:∀ g,lblk x=some g→r≠some g):LOwn w' lo l m x:=⟨own_beside h.own hg hne,h.src,h.few⟩
theorem LOwn.row {w w':World} {lo m lo' e' size' n':Nat} {l:List DT} {x:LT} {v':Value} {xs':List Value} (h:LOwn w lo l m x) (ho:w.ownsRow lo' e' size' v' n' xs') (hg:w.grownBy w' v'.ownBlock) (hne:34≠e'):LOwn w' lo l m x:=⟨own_two h.own ho hg hne,h.src,h.few⟩
theorem TIn.below {w w':World} {lo m:Nat} {l:List DT} {ls:List LT} (h:TIn w lo l m ls) (hb:Below w.heap.size w w'):TIn w' lo l m ls:=⟨fun x hx=>(h.ln x hx).below hb,h.dis⟩
theorem TIn.mono {w:World} {lo m m':Nat} {l:List DT} {ls:List LT} (h:TIn w lo l m ls) (hm:m≤m'):TIn w lo l m' ls:=⟨fun x hx=>(h.ln x hx).mono hm,h.dis⟩
theorem tcells_length' (l:List LT):(tcells l).length=l.length*2:=by
 induction l with
 | nil=>rfl
 | cons x r ih=>simp [tcells,ih];omega
theorem tcells_append' (a b:List LT):tcells (a++b)=tcells a++tcells b:=by
 induction a with
 | nil=>rfl
 | cons x r ih=>simp [tcells,ih]
theorem lns_append' (a b:List LT):lns (a++b)=lns a++lns b:=by simp [lns]
theorem tcells_mid (a b:List LT) (x:LT):(tcells (a++[x]++b))[a.length*2]?=some (.slice x.sa x.ser.length x.sc)∧(tcells (a++[x]++b))[a.length*2+1]?=some (.slice x.pa x.smp.length x.pc):=by
 have e:tcells (a++[x]++b)=tcells a++(.slice x.sa x.ser.length x.sc::.slice x.pa x.smp.length x.pc::tcells b):=by
  rw [List.append_assoc,tcells_append'];rfl
 rw [e]
 have hl:=tcells_length' a
 constructor
 ·rw [List.getElem?_append_right (by omega),hl,Nat.sub_self];rfl
 ·rw [List.getElem?_append_right (by omega),hl,show a.length*2+1-a.length*2=1 from by omega];rfl
end Go.Proofs.YtoldmigappbjcaaGreatDoor
namespace Go.GrainU
open Go.RowKit
theorem seg_grown3 {w w':World} {r:Option Nat} {ao:Option Addr} {xs:List Value} (h:Seg w ao xs) (hg:w.grownBy w' r) (hne:∀ b off,ao=some ⟨b,off,none⟩→r≠some b):Seg w' ao xs:=by
 rcases h with h | ⟨b,off,rfl,hc⟩
 ·exact .inl h
 ·refine .inr ⟨b,off,rfl,fun j hj=>?_⟩
  have hl:b<w.heap.size:=Seg.block_lt hc (fun e=>by rw [e] at hj;simp at hj)
  have hb:=hg.block b hl (fun e=>hne b off rfl e.symm)
  rw [← hc j hj]
  simp [World.cell?,hb]
theorem cutP_none {oo:Option Addr} {d j s:Nat} (h:cutP oo d j s=none):oo=none:=by
 unfold cutP at h
 cases oo with
 | none=>rfl
 | some a =>
  split at h
  ·cases h
  ·simp at h
end Go.GrainU
namespace Go.Proofs.YtoldmigappbjcaaGreatDoor
open Go.RowKit Go.GrainU
theorem tcells_td (l:List LT):∀ p1 p2,((tcells l).take (p2*2)).drop (p1*2)=tcells ((l.take p2).drop p1):=by
 have ht:∀ (l:List LT) p,(tcells l).take (p*2)=tcells (l.take p):=by
  intro l
  induction l with
  | nil=>intro p;simp [tcells]
  | cons x r ih =>
   intro p
   cases p with
   | zero=>simp [tcells]
   | succ p=>rw [show (p+1)*2=p*2+1+1 from by omega];simp [tcells,ih p]
 have hd:∀ (l:List LT) p,(tcells l).drop (p*2)=tcells (l.drop p):=by
  intro l
  induction l with
  | nil=>intro p;simp [tcells]
  | cons x r ih =>
   intro p
   cases p with
   | zero=>simp [tcells]
   | succ p=>rw [show (p+1)*2=p*2+1+1 from by omega];simp [tcells,ih p]
 intro p1 p2
 rw [ht,hd]
theorem tcells_one (l:List LT):∀ u∈tcells l,u.oneCell'=true:=by
 induction l with
 | nil=>intro u hu;cases hu
 | cons x r ih =>
  intro u hu
  simp only [tcells,List.mem_cons] at hu
  rcases hu with e | e | e
  ·subst e;rfl
  ·subst e;rfl
  ·exact ih u e
theorem slc_to {oo:Option Addr} {N d j:Nat} (hj:j≤N) (hN:N≤d):∀ w,Sem.run Tryz.prog (Instr.slice 51 (.slice oo N d) none (some (.int .i64 (j:Int))) none) w=.ok (.slice (cutP oo d 0 2) j d) w:=by
 intro w
 rw [run_slice_h (P:=Tryz.prog) (t:=51) (ht:=by kernel_rfl) (a:=oo) (len:=N) (cap:=d) (kh:=.i64) (h:=(j:Int)) (h0:=by omega) (h2:=by omega)]
 simp [sliced,cutP,go_sem]
theorem slc_from {oo:Option Addr} {N d j:Nat} (hj:j≤N):∀ w,Sem.run Tryz.prog (Instr.slice 51 (.slice oo N d) (some (.int .i64 (j:Int))) none none) w=.ok (.slice (cutP oo d j 2) (N-j) (d-j)) w:=by
 intro w
 rw [run_slice_l (P:=Tryz.prog) (t:=51) (ht:=by kernel_rfl) (a:=oo) (len:=N) (cap:=d) (kl:=.i64) (l:=(j:Int)) (h0:=by omega) (h1:=by omega)]
 simp [sliced,cutP,go_sem]
theorem lser_lns {ls:List LT} {k:Nat} (h:k<ls.length):lser (lns ls) k=(lt ls k).ser:=by
 simp [lser,lns,lt,List.getD,h,LT.ln]
theorem tin_put {X B wa:World} {lo k g N Dp pc:Nat} {pa:Option Addr} {l:List DT} {a b:List LT} {x:LT} {t v:Int}
  (row:X.ownsRow lo 63 2 (.slice (some ⟨g,0,none⟩) N Dp) N (tcells (a++[x]++b))) (tin:TIn X lo l k (a++[x]++b)) (bB:Below X.heap.size X B)
  (owna:wa.ownsRow lo 34 2 (.slice pa (x.smp.length+1) pc) (x.smp.length+1) (scells (x.smp++[(t,v)]))) (gra:B.grownBy wa (Value.slice x.pa x.smp.length x.pc).ownBlock)
  (hat:(Value.slice pa (x.smp.length+1) pc).ownBlock=(Value.slice x.pa x.smp.length x.pc).ownBlock∨(Value.slice pa (x.smp.length+1) pc).ownBlock=some B.heap.size) (hlo:lo≤X.heap.size) :
  (wa.setCell ⟨g,a.length*2+1,none⟩ (.slice pa (x.smp.length+1) pc)).ownsRow lo 63 2 (.slice (some ⟨g,0,none⟩) N Dp) N (tcells (a++[⟨x.ser,x.smp++[(t,v)],x.sa,x.sc,pa,pc⟩]++b)) ∧
  TIn (wa.setCell ⟨g,a.length*2+1,none⟩ (.slice pa (x.smp.length+1) pc)) lo l (k+1) (a++[⟨x.ser,x.smp++[(t,v)],x.sa,x.sc,pa,pc⟩]++b)∧Below lo X (wa.setCell ⟨g,a.length*2+1,none⟩ (.slice pa (x.smp.length+1) pc)):=by
 obtain ⟨ap,hap⟩:=apart_drop tin.dis
 have hx:=tin.ln x (by simp)
 have xB:=hx.below bB
 have rowB:=own_below row bB
 have rowa:=own_two rowB xB.own gra (by decide)
 have hg:wa.grownBy (wa.setCell ⟨g,a.length*2+1,none⟩ (.slice pa (x.smp.length+1) pc)) (Value.slice (some ⟨g,0,none⟩) N Dp).ownBlock:=grown_set
 have hlen:(Value.slice pa (x.smp.length+1) pc)=.slice pa (x.smp++[(t,v)]).length pc:=by simp
 refine ⟨?_,⟨?_,?_⟩,?_⟩
 ·have h1:=own_set rowa (a.length*2+1) (.slice pa (x.smp.length+1) pc)
  have e:(tcells (a++[x]++b)).set (a.length*2+1) (.slice pa (x.smp.length+1) pc)=tcells (a++[⟨x.ser,x.smp++[(t,v)],x.sa,x.sc,pa,pc⟩]++b):=by
   rw [List.append_assoc,List.append_assoc,tcells_append',tcells_append',List.set_append_right _ _ (by rw [tcells_length'];omega),tcells_length',show a.length*2+1-a.length*2=1 from by omega]
   simp [tcells,tcells_append']
  rw [← e]
  exact h1
 ·intro y hy
  have hy':y∈a++b∨y=⟨x.ser,x.smp++[(t,v)],x.sa,x.sc,pa,pc⟩:=by
   rcases List.mem_append.1 hy with e | e
   ·rcases List.mem_append.1 e with e | e
    ·exact .inl (List.mem_append_left _ e)
    ·exact .inr (by simpa using e)
   ·exact .inl (List.mem_append_right _ e)
  rcases hy' with e | e
  ·have hym:y∈a++[x]++b:=by
    rcases List.mem_append.1 e with e | e
    ·exact List.mem_append_left _ (List.mem_append_left _ e)
    ·exact List.mem_append_right _ e
   have hyB:=(tin.ln y hym).below bB
   have hya:=hyB.grow gra (fun q h1 h2=>hap y e q h1 h2)
   exact (hya.row rowa hg (by decide)).mono (by omega)
  ·rw [e]
   refine ⟨?_,hx.src,?_⟩
   ·have:=own_two owna rowa hg (by decide)
    simpa using this
   ·have:=hx.few
    simp;omega
 ·refine apart_mid ap (fun y hy q h1 h2=>?_)
  have hym:y∈a++[x]++b:=by
   rcases List.mem_append.1 hy with e | e
   ·exact List.mem_append_left _ (List.mem_append_left _ e)
   ·exact List.mem_append_right _ e
  have h3:(Value.slice pa (x.smp.length+1) pc).ownBlock=some q:=by rw [hlen];exact h2
  rcases hat with h | h
  ·rw [h] at h3;exact hap y hy q h1 h3
  ·rw [h] at h3
   injection h3 with h3
   have:=(own_base (tin.ln y hym).own q h1).2
   have:=bB.size
   omega
 ·have b1:Below lo X B:=bB.mono hlo
  have b2:Below lo X wa:=b1.grown gra (Nat.le_trans hlo bB.size) (fun j hj=>(own_base hx.own j hj).1)
  exact b2.setCell (own_block row).1 _
open Go.RowKit Go.GrainU
theorem Tryz.infoLine2:(Tryz.prog.info? 63).map (fun i=>(i.zero,i.size,i.bytes))=some (some (.agg #[.slice none 0 0,.slice none 0 0]),2,48):=by kernel_rfl
theorem Tryz.infoSmp2:(Tryz.prog.info? 34).map (fun i=>(i.zero,i.size,i.bytes))=some (some (.agg #[.int .i64 0,.int .i64 0]),2,16):=by kernel_rfl
structure TMid (X:World) (lo:Nat) (l:List DT) (k:Nat) (ls:List LT) (se:Lb) (tv:Int×Int) (v:Value) (jj:Nat):Prop where
 mid:∃ (g N Dp:Nat) (a b:List LT) (x:LT),v=.slice (some ⟨g,0,none⟩) N Dp∧X.ownsRow lo 63 2 v N (tcells (a++[x]++b))∧a.length=jj∧TIn X lo l k (a++[x]++b)∧tellP (lns ls) se tv=lns a++[(x.ser,x.smp++[tv])]++lns b∧N≤k+1∧∀ y∈a++[x]++b,y.ser.length≤4
theorem own_some {w:World} {base e size n c:Nat} {ao:Option Addr} {xs:List Value} (h:w.ownsRow base e size (.slice ao n c) n xs) (hn:0<n):∃ g,ao=some ⟨g,0,none⟩:=by
 rcases h.2 with ⟨hv,_⟩ | ⟨g,cap,cur,hv,_⟩
 ·injection hv with h1 h2 h3
  omega
 ·injection hv with h1 h2 h3
  exact ⟨g,h1⟩
theorem own_slot {w:World} {base e size n cap g i:Nat} {xs:List Value} (h:w.ownsRow base e size (.slice (some ⟨g,0,none⟩) n cap) n xs) (hi:i<xs.length):w.cell? ⟨g,i,none⟩=xs[i]?∧w.frozen? ⟨g,i,none⟩=false:=by
 constructor
 ·rcases own_seg h with h0 | ⟨b,off,h1,h2⟩
  ·rw [h0] at hi;simp at hi
  ·injection h1 with h1
   injection h1 with h3 h4 _
   subst h3
   subst h4
   have:=h2 i hi
   simpa using this
 ·rcases h.2 with ⟨hv,_⟩ | ⟨g',cap',cur,hv,_,hgb,_⟩
  ·injection hv with h1;cases h1
  ·injection hv with h1
   injection h1 with h1
   injection h1 with h1
   subst h1
   simp [World.frozen?,hgb]
theorem lns_mid (a b:List LT) (x:LT):lns (a++[x]++b)=lns a++[(x.ser,x.smp)]++lns b:=by
 rw [lns_append',lns_append'];rfl
theorem ls_mid {ls:List LT} {j:Nat} (h:j<ls.length):ls.take j++[lt ls j]++ls.drop (j+1)=ls:=by
 have e:lt ls j=ls[j]:=by simp [lt,List.getD,List.getElem?_eq_getElem h]
 rw [e,List.append_assoc,List.singleton_append,List.getElem_cons_drop,List.take_append_drop]
set_option maxRecDepth 20000 in
set_option maxHeartbeats 8000000 in
theorem told_any (l:List DT) (ys:List AT) (A:List An) (ao oo:Option Addr) (n cap M cap2 lo2:Nat) (w:World) (hs:Seg w ao (dcells l)) (hd:∀ x∈l,DIn w x) (hn:n=l.length) (hout:OutS w lo2 (.slice oo M cap2) M ys) (hA:ys.map (fun y=>y.a)=A) (hnM:n≤M) (h120:n≤120) (h4:∀ k,k<n→(dtt l k).d.kind=1→(ys.getD k at0).a.err=0→(dtt l k).d.se.length≤4) :
  Calls Tryz.prog 17 #[.slice ao n cap,.slice oo M cap2] w fun e w'=>∃ (to':Option Addr) (N d:Nat) (ls:List LT),e=.returned (.slice to' N d)∧w'.ownsRow w.heap.size 63 2 (.slice to' N d) N (tcells ls)∧TIn w' w.heap.size l n ls∧lns ls=toldP [] (dns l) (A.take n)∧Below w.heap.size w w':=by
 obtain ⟨i0,hi,hz0,hz1,hz2⟩:=sinfo_parts Tryz.infoLine2
 obtain ⟨i1,hj,hy0,hy1,hy2⟩:=sinfo_parts Tryz.infoSmp2
 have HS:=hide hs
 have HD:=hide hd
 have HN:=hide hn
 have HOut:=hide hout
 have HA:=hide hA
 have H4:=hide h4
 clear hs hd hn hout hA h4
 go_enter Tryz.func17,Tryz.ntmps17
 go_wp2
 go_loopw [5,11] (fun out i wr=>∃ (k N d:Nat) (oo':Option Addr) (ls:List LT),k≤n∧i=.int .i64 k∧out=.slice oo' N d∧N≤k∧wr.ownsRow w.heap.size 63 2 (.slice oo' N d) N (tcells ls)∧TIn wr w.heap.size l k ls∧Hid (lns ls=toldP [] (dns (l.take k)) (A.take k))∧Hid (∀ x∈ls,x.ser.length≤4)∧Below w.heap.size w wr) (fun _ i _=>n-(intOf i).toNat)
 case atStart=>exact ⟨0,0,0,none,[],Nat.zero_le _,rfl,rfl,Nat.le_refl _,by simpa [tcells] using World.ownsRow_nil _ _ _ _,⟨fun x hx=>(by cases hx),List.Pairwise.nil⟩,rfl,fun x hx=>(by cases hx),Below.refl _ _⟩
 case round =>
  obtain ⟨k,N,d,oo',ls,hk,rfl,rfl,hNk,own,tin,HL,H5,bel⟩:=hrel
  by_cases hlt:k<n
  ·have hkl:k<l.length:=by rw [← HN.out];exact hlt
   have hkM:k<M:=by omega
   obtain ⟨bb,off,rfl,hbb,hcell⟩:=seg_do HS.out hkl
   obtain ⟨ob,ooff,rfl,hob,hocell⟩:=out_at HOut.out hkM
   obtain ⟨x,hx⟩:∃ x,x=dtt l k:=⟨_,rfl⟩
   obtain ⟨y,hy⟩:∃ y,y=ys.getD k at0:=⟨_,rfl⟩
   have cc:∀ i,i<7→wr.cell? ⟨bb,off+k*7+i,none⟩=x.cells[i]?:=fun i hi=>by rw [hx];exact (bel.cell (p:=⟨bb,_,none⟩) hbb).trans (hcell k hkl i hi)
   obtain ⟨E,hE⟩:∃ E,E=y.a.err:=⟨_,rfl⟩
   obtain ⟨K,hK⟩:∃ K,K=x.d.kind:=⟨_,rfl⟩
   obtain ⟨m,hm⟩:∃ m,m=x.d.se.length:=⟨_,rfl⟩
   obtain ⟨se,hse⟩:∃ se,se=x.d.se:=⟨_,rfl⟩
   obtain ⟨t,ht⟩:∃ t,t=x.d.t:=⟨_,rfl⟩
   obtain ⟨v,hv⟩:∃ v,v=x.d.v:=⟨_,rfl⟩
   have q0:wr.cell? ⟨bb,off+k*7,none⟩=some (.int .i64 K):=by rw [hK];exact cc 0 (by omega)
   have q1:wr.cell? ⟨bb,off+k*7+1,none⟩=some (.int .i64 x.d.tier):=cc 1 (by omega)
   have q2:wr.cell? ⟨bb,off+k*7+2,none⟩=some (.int .i64 x.d.till):=cc 2 (by omega)
   have q3:wr.cell? ⟨bb,off+k*7+3,none⟩=some (.slice x.sa m x.sc):=by rw [hm];exact cc 3 (by omega)
   have q4:wr.cell? ⟨bb,off+k*7+4,none⟩=some (.int .i64 t):=by rw [ht];exact cc 4 (by omega)
   have q5:wr.cell? ⟨bb,off+k*7+5,none⟩=some (.int .i64 v):=by rw [hv];exact cc 5 (by omega)
   have q6:wr.cell? ⟨bb,off+k*7+6,none⟩=some (.string x.d.tx):=cc 6 (by omega)
   have hxl:x∈l:=by rw [hx,dtt_get hkl];exact List.getElem_mem hkl
   have hdin:DIn w x:=HD.out x hxl
   have sgx:Seg w x.sa (lcells se):=by rw [hse];exact hdin.seg
   have hmse:m=se.length:=by rw [hm,hse]
   have hyl:=HOut.out.len
   have hkA:k<A.length:=by rw [← HA.out];simp;omega
   have hya:A[k]=y.a:=by
    have hky:k<ys.length:=by omega
    have h1:=congrArg (fun L=>L[k]?) HA.out
    simp only [List.getElem?_map,List.getElem?_eq_getElem hky,List.getElem?_eq_getElem hkA,Option.map_some] at h1
    injection h1 with h1
    rw [← h1,hy]
    simp [List.getD,List.getElem?_eq_getElem hky]
   have HG:Hid (toldP [] (dns (l.take (k+1))) (A.take (k+1))=if K=1∧E=0 then tellP (lns ls) se (t,v) else lns ls):=by
    show _=_
    rw [dns_take hkl,List.take_add_one (l:=A),List.getElem?_eq_getElem hkA]
    simp only [Option.toList_some]
    rw [toldP_snoc _ _ _ _ _ (by simp [dns];omega),← HL.out,hya,← hx,tellS,hK,hE,hse,ht,hv]
   have HM4:Hid (K=1→E=0→m≤4):=fun h1 h2=>by
    have:=H4.out k hlt (by rw [← hx,← hK];exact h1) (by rw [← hy,← hE];exact h2)
    rw [hm,hx];exact this
   have o0':wr.cell? ⟨ob,ooff+k*4,none⟩=some (.int .i64 E):=by
    have:=(bel.cell (p:=⟨ob,ooff+k*4+0,none⟩) hob).trans (hocell 0 (by omega))
    rw [← hy] at this
    rw [hE];exact this
   have hki:(k:Int)<(n:Int):=by omega
   have hkiM:(k:Int)<(M:Int):=by omega
   obtain ⟨V0,hV0⟩:∃ V0,V0=wr.alloc (.cells #[.int .i64 K,.int .i64 x.d.tier,.int .i64 x.d.till,.slice x.sa m x.sc,.int .i64 t,.int .i64 v,.string x.d.tx] 36):=⟨_,rfl⟩
   have bV0:Below wr.heap.size wr V0:=by rw [hV0];exact (Below.refl _ _).alloc (Nat.le_refl _) _
   have D0:V0.heap[wr.heap.size]?=some (.cells #[.int .i64 K,.int .i64 x.d.tier,.int .i64 x.d.till,.slice x.sa m x.sc,.int .i64 t,.int .i64 v,.string x.d.tx] 36 (0,0)):=by rw [hV0];exact heap_alloc_new wr _
   have o0:V0.cell? ⟨ob,ooff+k*4,none⟩=some (.int .i64 E):=(bV0.cell (World.block_lt_of_cell? wr _ o0')).trans o0'
   have own0:=own_below own bV0
   have tin0:=tin.below bV0
   have bel0:=below_step bV0 bel
   obtain ⟨D,hD⟩:∃ D,D=wr.heap.size:=⟨_,rfl⟩
   rw [← hD] at D0
   have HSg:Hid (∀ W,Below w.heap.size w W→Seg W x.sa (lcells se)):=fun W hb=>sgx.below hb
   have hsrc:∃ d∈l,se=d.d.se∧x.sa=d.sa∧x.sc=d.sc:=⟨x,hxl,hse,rfl,rfl⟩
   obtain ⟨sa,hsa⟩:∃ sa,sa=x.sa:=⟨_,rfl⟩
   obtain ⟨sc,hsc⟩:∃ sc,sc=x.sc:=⟨_,rfl⟩
   obtain ⟨t1,ht1⟩:∃ z,z=x.d.tier:=⟨_,rfl⟩
   obtain ⟨t2,ht2⟩:∃ z,z=x.d.till:=⟨_,rfl⟩
   obtain ⟨tx,htx⟩:∃ z,z=x.d.tx:=⟨_,rfl⟩
   rw [← hsa,← hsc] at hsrc
   rw [← hsa] at HSg
   rw [← hsa,← hsc,← ht1,← ht2,← htx] at D0 hV0
   rw [← hsa,← hsc] at q3
   rw [← ht1] at q1
   rw [← ht2] at q2
   rw [← htx] at q6
   have HSrc:=hide hsrc
   obtain ⟨p0,p1,p2,p3,p4,p5,p6⟩:=seven_cells D0
   have HV0:=hide hV0
   have HDD:=hide hD
   have HMs:=hide hmse
   clear hcell hocell cc hx hy hE hK hm hse ht hv hkl hxl hdin sgx hyl hkA hya o0' own tin bel hV0 hD hsrc hsa hsc ht1 ht2 htx hmse bV0
   go_upto_region 5 with fail
   rw [← HV0.out,← HDD.out]
   by_cases hK1:K=1
   ·by_cases hE0:E=0
    ·have HG2:Hid (toldP [] (dns (l.take (k+1))) (A.take (k+1))=tellP (lns ls) se (t,v)):=by show _=_;rw [HG.out,if_pos ⟨hK1,hE0⟩]
     have hm4:m≤4:=HM4.out hK1 hE0
     subst hK1
     subst hE0
     clear HG HM4 HL
     go_upto_block 2 with fail
     go_cut [8] from 27 to 43 (fun j wx=>∃ jj:Nat,j=.int .i64 (jj:Int)∧jj≤N∧Hid (∀ i,i<jj→cmpS (lser (lns ls) i) se<0)∧Hid (jj=N∨¬ cmpS (lser (lns ls) jj) se<0)∧Below V0.heap.size V0 wx)
     case first =>
      go_wp2
      go_loopw [8] (fun j wq=>∃ jj:Nat,jj≤N∧j=.int .i64 (jj:Int)∧Hid (∀ i,i<jj→cmpS (lser (lns ls) i) se<0)∧Below V0.heap.size V0 wq) (fun j _=>N-(intOf j).toNat)
      case atStart=>exact ⟨0,Nat.zero_le _,rfl,fun i hi=>(by omega),Below.refl _ _⟩
      case round =>
       obtain ⟨jj,hjN,hjj,HJ,bq⟩:=hrel
       subst hjj
       by_cases hjl:jj<N
       ·have hlen:N=ls.length:=by have:=own0.1;rw [tcells_length'] at this;omega
        have hjls:jj<ls.length:=by omega
        obtain ⟨rb,ro,hro,hrb,hrc⟩:=seg_line (own_seg' own0) hjls
        obtain ⟨z,hz⟩:∃ z,z=lt ls jj:=⟨_,rfl⟩
        obtain ⟨zn,hzn⟩:∃ zn,zn=z.ser.length:=⟨_,rfl⟩
        have hzm:z∈ls:=by rw [hz];exact lt_mem hjls
        have r0:wr.cell? ⟨rb,ro+jj*2,none⟩=some (.slice z.sa zn z.sc):=by rw [hzn,hz];exact (bq.cell (by exact hrb)).trans (hrc jj hjls).1
        have s3:wr.cell? ⟨D,3,none⟩=some (.slice sa m sc):=(bq.cell (World.block_lt_of_cell? V0 _ p3)).trans p3
        have z4:zn≤4:=by rw [hzn];exact H5.out z hzm
        obtain ⟨zd,hzd,ez1,ez2,ez3⟩:=(tin0.ln z hzm).src
        have HZs:Hid (∀ W,Below w.heap.size w W→Seg W z.sa (lcells z.ser)):=fun W hb=>by rw [ez1,ez2];exact ((HD.out zd hzd).below hb).seg
        obtain ⟨C,hC⟩:∃ C,C=cmpS z.ser se:=⟨_,rfl⟩
        have PC:Hid (∀ w',Below V0.heap.size V0 w'→Calls Tryz.prog 20 #[.slice z.sa zn z.sc,.slice sa m sc] w' fun e w''=>e=.returned (.int .i64 C)∧Below w'.heap.size w' w''):=fun w' hb'=>by
         rw [hC]
         exact ncmp_any z.ser se z.sa sa zn m z.sc sc w' (HZs.out w' (below_step hb' bel0)) (HSg.out w' (below_step hb' bel0)) hzn HMs.out (by omega)
        have HCj:Hid (cmpS (lser (lns ls) jj) se=C):=by show _=_;rw [lser_lns hjls,hC,hz]
        have g1:rb<wr.heap.size:=World.block_lt_of_cell? wr _ r0
        have g2:D<wr.heap.size:=World.block_lt_of_cell? wr _ s3
        have HSS:Hid (∀ w',Below wr.heap.size wr w'→w'.cell? ⟨rb,ro+jj*2,none⟩=some (.slice z.sa zn z.sc)∧w'.cell? ⟨D,3,none⟩=some (.slice sa m sc)):=fun w' hb'=>⟨(hb'.cell (by exact g1)).trans r0,(hb'.cell (by exact g2)).trans s3⟩
        have R0:Below wr.heap.size wr wr.drew:=below_drewN (Below.refl _ _) 1
        have hji:(jj:Int)<(N:Int):=by omega
        subst hro
        clear hrc hz hzn hzm z4 hzd ez1 ez2 ez3 HZs hC r0 s3 hjls hlen
        by_cases hc:C<0
        ·have dC:decide (C<0)=true:=by simpa using hc
         have HJ2:Hid (∀ i,i<jj+1→cmpS (lser (lns ls) i) se<0):=fun i hi=>by
          rcases Nat.lt_or_ge i jj with h | h
          ·exact HJ.out i h
          ·have:i=jj:=by omega
           subst this
           rw [HCj.out];exact hc
         clear HJ HCj
         go_wp2_with fail
         go_region_held3 (fun w'=>w'.cell? ⟨rb,ro+jj*2,none⟩=some (.slice z.sa zn z.sc)∧w'.cell? ⟨D,3,none⟩=some (.slice sa m sc)) (exact HSS.out _ (by with_reducible assumption))
          (first | (go_at_call 20;refine (PC.out _ (bq.trans (Below.mono (by with_reducible assumption) bq.size))).mono ?_;rintro e w3 ⟨rfl,b3⟩;have R4:=below_step b3 (by with_reducible assumption)))
         all_goals
          have bel3:Below V0.heap.size V0 w3:=bq.trans (R4.mono bq.size)
          clear R4 b3 R0 HSS PC bq
          go_wp2
          go_roundw
          case rel=>exact ⟨jj+1,by omega,by go_num,HJ2,bel3⟩
          case measure=>simp [intOf];omega
        ·have dC:decide (C<0)=false:=by simpa using hc
         have HE2:Hid (jj=N∨¬ cmpS (lser (lns ls) jj) se<0):=.inr (by rw [HCj.out];exact hc)
         clear HCj
         go_wp2_with fail
         go_region_held3 (fun w'=>w'.cell? ⟨rb,ro+jj*2,none⟩=some (.slice z.sa zn z.sc)∧w'.cell? ⟨D,3,none⟩=some (.slice sa m sc)) (exact HSS.out _ (by with_reducible assumption))
          (first | (go_at_call 20;refine (PC.out _ (bq.trans (Below.mono (by with_reducible assumption) bq.size))).mono ?_;rintro e w3 ⟨rfl,b3⟩;have R4:=below_step b3 (by with_reducible assumption)))
         all_goals
          have bel3:Below V0.heap.size V0 w3:=bq.trans (R4.mono bq.size)
          clear R4 b3 R0 HSS PC bq
          go_wp2_with fail
          go_meet
          exact ⟨jj,rfl,hjN,HJ,HE2,bel3⟩
       ·have hje:jj=N:=by omega
        have hji:¬ (jj:Int)<(N:Int):=by omega
        have dji:decide ((jj:Int)<(N:Int))=false:=by simpa using hji
        go_wp2_with fail
        subst hje
        go_quiet (fail)
        go_wp2_with fail
        go_meet
        exact ⟨jj,rfl,Nat.le_refl _,HJ,.inl rfl,below_drewN bq _⟩
     case rest =>
      obtain ⟨jj,rfl,hjN,HJ,HE2,bc⟩:=hcut
      have hlen:N=ls.length:=by have:=own0.1;rw [tcells_length'] at this;omega
      have HLn:=hide hlen
      have HJp:Hid (lpos (lns ls) se=jj):=lpos_eq HJ.out (by simp [lns];omega) (by
       rcases HE2.out with h | h
       ·left;rw [h,hlen];simp [lns]
       ·exact .inr h)
      clear HJ HE2 hlen
      go_upto_region 9 with fail
      go_cut [58] from 44 to 57 (fun bv wx=>∃ hb:Bool,bv=.bool hb∧Hid (hb=true↔¬ (jj<N∧cmpS (lser (lns ls) jj) se=0))∧Below V0.heap.size V0 wx)
      case first =>
       by_cases hjl:jj<N
       ·have hjls:jj<ls.length:=by rw [← HLn.out];exact hjl
        obtain ⟨rb,ro,hro,hrb,hrc⟩:=seg_line (own_seg' own0) hjls
        obtain ⟨z,hz⟩:∃ z,z=lt ls jj:=⟨_,rfl⟩
        obtain ⟨zn,hzn⟩:∃ zn,zn=z.ser.length:=⟨_,rfl⟩
        have hzm:z∈ls:=by rw [hz];exact lt_mem hjls
        have r0:wc.cell? ⟨rb,ro+jj*2,none⟩=some (.slice z.sa zn z.sc):=by rw [hzn,hz];exact (bc.cell (by exact hrb)).trans (hrc jj hjls).1
        have s3:wc.cell? ⟨D,3,none⟩=some (.slice sa m sc):=(bc.cell (World.block_lt_of_cell? V0 _ p3)).trans p3
        have z4:zn≤4:=by rw [hzn];exact H5.out z hzm
        obtain ⟨zd,hzd,ez1,ez2,ez3⟩:=(tin0.ln z hzm).src
        have HZs:Hid (∀ W,Below w.heap.size w W→Seg W z.sa (lcells z.ser)):=fun W hb=>by rw [ez1,ez2];exact ((HD.out zd hzd).below hb).seg
        obtain ⟨C,hC⟩:∃ C,C=cmpS z.ser se:=⟨_,rfl⟩
        have PC:Hid (∀ w',Below V0.heap.size V0 w'→Calls Tryz.prog 20 #[.slice z.sa zn z.sc,.slice sa m sc] w' fun e w''=>e=.returned (.int .i64 C)∧Below w'.heap.size w' w''):=fun w' hb'=>by
         rw [hC]
         exact ncmp_any z.ser se z.sa sa zn m z.sc sc w' (HZs.out w' (below_step hb' bel0)) (HSg.out w' (below_step hb' bel0)) hzn HMs.out (by omega)
        have HCj:Hid (cmpS (lser (lns ls) jj) se=C):=by show _=_;rw [lser_lns hjls,hC,hz]
        have g1:rb<wc.heap.size:=World.block_lt_of_cell? wc _ r0
        have g2:D<wc.heap.size:=World.block_lt_of_cell? wc _ s3
        have HSS:Hid (∀ w',Below wc.heap.size wc w'→w'.cell? ⟨rb,ro+jj*2,none⟩=some (.slice z.sa zn z.sc)∧w'.cell? ⟨D,3,none⟩=some (.slice sa m sc)):=fun w' hb'=>⟨(hb'.cell (by exact g1)).trans r0,(hb'.cell (by exact g2)).trans s3⟩
        have R0:Below wc.heap.size wc wc.drew:=below_drewN (Below.refl _ _) 1
        have hje:((jj:Int) == (N:Int))=false:=by simp;omega
        have hji:(jj:Int)<(N:Int):=by omega
        subst hro
        clear hrc hz hzn hzm z4 hzd ez1 ez2 ez3 HZs hC r0 s3 hjls
        have HF:Hid (∀ c,(C != 0)=c→(c=true↔¬ (jj<N∧cmpS (lser (lns ls) jj) se=0))):=fun c hc=>by
         rw [HCj.out,← hc]
         simp [hjl]
        clear HCj
        by_cases hc:C=0
        ·have dC:(C != 0)=false:=by simp [hc]
         go_region_held3 (fun w'=>w'.cell? ⟨rb,ro+jj*2,none⟩=some (.slice z.sa zn z.sc)∧w'.cell? ⟨D,3,none⟩=some (.slice sa m sc)) (exact HSS.out _ (by with_reducible assumption))
          (first | (go_at_call 20;refine (PC.out _ (bc.trans (Below.mono (by with_reducible assumption) bc.size))).mono ?_;rintro e w3 ⟨rfl,b3⟩;have R4:=below_step b3 (by with_reducible assumption)))
         all_goals
          have bel3:Below V0.heap.size V0 w3:=bc.trans (R4.mono bc.size)
          clear R4 b3 R0 HSS PC bc
          go_wp2_with fail
          go_meet
          exact ⟨false,by first | rfl | simp [dC],HF.out _ dC,bel3⟩
        ·have dC:(C != 0)=true:=by simp [hc]
         go_region_held3 (fun w'=>w'.cell? ⟨rb,ro+jj*2,none⟩=some (.slice z.sa zn z.sc)∧w'.cell? ⟨D,3,none⟩=some (.slice sa m sc)) (exact HSS.out _ (by with_reducible assumption))
          (first | (go_at_call 20;refine (PC.out _ (bc.trans (Below.mono (by with_reducible assumption) bc.size))).mono ?_;rintro e w3 ⟨rfl,b3⟩;have R4:=below_step b3 (by with_reducible assumption)))
         all_goals
          have bel3:Below V0.heap.size V0 w3:=bc.trans (R4.mono bc.size)
          clear R4 b3 R0 HSS PC bc
          go_wp2_with fail
          go_meet
          exact ⟨true,by first | rfl | simp [dC],HF.out _ dC,bel3⟩
       ·have hje:jj=N:=by omega
        subst hje
        have e1:((jj:Int) == (jj:Int))=true:=by simp
        go_quiet (fail)
        go_wp2_with fail
        go_meet
        exact ⟨true,by first | rfl | simp,(by show _↔_;simp),below_drewN bc _⟩
      case rest =>
       obtain ⟨hb,rfl,HH,bc2⟩:=hcut
       obtain ⟨X,hX⟩:∃ X,X=wc:=⟨_,rfl⟩
       rw [← hX] at bc2 ⊢
       clear hX bc
       have ownX:=own_below own0 bc2
       have tinX:=tin0.below bc2
       have DX:=below_block bc2 D0
       have belX:=below_step bc2 bel0
       clear own0 tin0
       go_upto_if 58 with fail
       go_cut [5] from 59 to 72 (fun v' wx=>TMid wx w.heap.size l k ls se (t,v) v' jj∧Below X.heap.size X wx)
       case first =>
        cases hb with
        | false =>
         obtain ⟨hjl,hc0⟩:jj<N∧cmpS (lser (lns ls) jj) se=0:=Decidable.not_not.1 (fun h=>by have:=HH.out.2 h;cases this)
         have hjls:jj<ls.length:=by rw [← HLn.out];exact hjl
         have hser:(lt ls jj).ser=se:=by rw [lser_lns hjls] at hc0;exact (cmpS_zero _ _).1 hc0
         obtain ⟨g,hg⟩:=own_some ownX (by omega)
         subst hg
         have em:=ls_mid hjls
         have FIN:Hid (TMid X w.heap.size l k ls se (t,v) (.slice (some ⟨g,0,none⟩) N d) jj):=by
          refine ⟨⟨g,N,d,ls.take jj,ls.drop (jj+1),lt ls jj,rfl,by rw [em];exact ownX,by simp;omega,by rw [em];exact tinX,?_,by omega,by rw [em];exact H5.out⟩⟩
          have e2:lns ls=lns (ls.take jj)++[(se,(lt ls jj).smp)]++lns (ls.drop (jj+1)):=by
           rw [← hser,← lns_mid,em]
          have hp:=HJp.out
          rw [e2] at hp ⊢
          rw [hser]
          exact tell_in (by rw [hp];simp [lns];omega)
         clear HH hjl hc0 hjls hser em
         go_wp2_with fail
         go_meet
         exact ⟨FIN.out,Below.refl _ _⟩
        | true =>
         have hnot:¬ (jj<N∧cmpS (lser (lns ls) jj) se=0):=HH.out.1 rfl
         obtain ⟨a,ha⟩:∃ a,a=ls.take jj:=⟨_,rfl⟩
         obtain ⟨b,hb⟩:∃ b,b=ls.drop jj:=⟨_,rfl⟩
         have hab:a++b=ls:=by rw [ha,hb,List.take_append_drop]
         have hal:a.length=jj:=by rw [ha];simp;have:=HLn.out;omega
         have hbl:b.length=N-jj:=by rw [hb];simp;have:=HLn.out;omega
         obtain ⟨_,_,hvv,-,hNd'⟩:=own_open ownX
         have hNd:N≤d:=by injection hvv with _ _ h3;omega
         obtain ⟨oa,hoa⟩:∃ oa,oa=cutP oo' d 0 2:=⟨_,rfl⟩
         obtain ⟨ob',hob'⟩:∃ ob',ob'=cutP oo' d jj 2:=⟨_,rfl⟩
         have hl2:(tcells ls).length=N*2:=ownX.1
         have hgA:Seg X oa (tcells a):=by
          have:=seg_cutP (n:=N) (p1:=0) (p2:=jj) (own_seg' ownX) hl2 hNd (Nat.zero_le _) hjN
          rw [tcells_td] at this
          rw [hoa,ha];simpa using this
         have hgB:Seg X ob' (tcells b):=by
          have:=seg_cutP (n:=N) (p1:=jj) (p2:=N) (own_seg' ownX) hl2 hNd hjN (Nat.le_refl _)
          rw [tcells_td,List.take_of_length_le (by rw [HLn.out];exact Nat.le_refl _)] at this
          rw [hob',hb];exact this
         have hnA:oa=none→jj=0∧d=0:=fun h=>by
          have:=own_nil ownX (cutP_none (by rw [← hoa];exact h))
          omega
         have hnB:ob'=none→N-jj=0∧d-jj=0:=fun h=>by
          have:=own_nil ownX (cutP_none (by rw [← hob'];exact h))
          omega
         have SA:=slc_to (oo:=oo') hjN hNd
         have SB0:=slc_from (oo:=oo') (d:=d) hjN
         rw [← hoa] at SA
         rw [← hob'] at SB0
         have lenA:(tcells a).length=jj*2:=by rw [tcells_length',hal]
         have lenB:(tcells b).length=(N-jj)*2:=by rw [tcells_length',hbl]
         have hone:∀ u∈[Value.slice sa m sc,.slice none 0 0],u.oneCell'=true:=by
          intro u hu
          simp only [List.mem_cons,List.not_mem_nil,or_false] at hu
          rcases hu with e | e <;> (subst e;rfl)
         have HFI:Hid (∀ (wz:World) (vz:Value) (ownz:wz.ownsRow X.heap.size 63 2 vz (0+jj+1+(N-jj)) ([]++tcells a++[.slice sa m sc,.slice none 0 0]++tcells b)) (blz:Below X.heap.size X wz),TMid wz w.heap.size l k ls se (t,v) vz jj):=by
          intro wz vz ownz blz
          obtain ⟨A',Dp,hvA,_,_⟩:=own_open ownz
          subst hvA
          obtain ⟨g,hg⟩:=own_some ownz (by omega)
          subst hg
          have hN1:0+jj+1+(N-jj)=N+1:=by omega
          rw [hN1] at ownz
          have ec:tcells (a++[⟨se,[],sa,sc,none,0⟩]++b)=[]++tcells a++[.slice sa m sc,.slice none 0 0]++tcells b:=by
           rw [tcells_append',tcells_append',HMs.out];rfl
          have tz:=tinX.below blz
          have hm:∀ y∈a++b,y∈ls:=fun y hy=>by rw [← hab];exact hy
          refine ⟨⟨g,N+1,Dp,a,b,⟨se,[],sa,sc,none,0⟩,by rw [hN1],?_,hal,⟨?_,?_⟩,?_,by omega,?_⟩⟩
          ·rw [ec,hN1];exact own_lower ownz belX.size
          ·intro y hy
           rcases List.mem_append.1 hy with e | e
           ·rcases List.mem_append.1 e with e | e
            ·exact tz.ln y (hm y (List.mem_append_left _ e))
            ·simp at e
             rw [e]
             obtain ⟨dd,hdd,e1,e2,e3⟩:=HSrc.out
             exact ⟨by simpa [scells] using World.ownsRow_nil _ _ _ _,⟨dd,hdd,e1,e2,e3⟩,Nat.zero_le _⟩
           ·exact tz.ln y (hm y (List.mem_append_right _ e))
          ·refine apart_mid (by rw [hab];exact tz.dis) (fun y _ q _ h2=>?_)
           simp [lblk,Value.ownBlock] at h2
          ·have hp:=HJp.out
           rw [← hab,lns_append'] at hp ⊢
           refine tell_new (by rw [hp];simp [lns,hal]) ?_
           by_cases hjl:jj<N
           ·right
            intro hc
            apply hnot
            refine ⟨hjl,?_⟩
            rw [← hab,lns_append',show lser (lns a++lns b) jj=lser (lns b) 0 from by
             have:(lns a).length=jj:=by simp [lns,hal]
             rw [← this]
             simp [lser,List.getD,List.getElem?_append_right (Nat.le_refl (lns a).length)]]
            exact hc
           ·left
            have:b=[]:=List.length_eq_zero_iff.1 (by omega)
            rw [this];rfl
          ·intro y hy
           rcases List.mem_append.1 hy with e | e
           ·rcases List.mem_append.1 e with e | e
            ·exact H5.out y (hm y (List.mem_append_left _ e))
            ·simp at e
             rw [e]
             show se.length≤4
             rw [← HMs.out];exact hm4
           ·exact H5.out y (hm y (List.mem_append_right _ e))
         have BE0:Below X.heap.size X (X.alloc (.cells #[] 63)):=(Below.refl _ X).alloc (Nat.le_refl _) _
         have BES0:Below X.heap.size X ((X.alloc (.cells #[] 63)).alloc (.cells #[.slice sa m sc,.slice none 0 0] 63)):=BE0.alloc BE0.size _
         have BS0:Below X.heap.size X (X.alloc (.cells #[.slice sa m sc,.slice none 0 0] 63)):=(Below.refl _ X).alloc (Nat.le_refl _) _
         have BSE0:Below X.heap.size X ((X.alloc (.cells #[.slice sa m sc,.slice none 0 0] 63)).alloc (.cells #[] 63)):=BS0.alloc BS0.size _
         have BE:Below X.heap.size X (X.alloc (.cells #[] 63)).drew:=below_drewN BE0 1
         have BES:Below X.heap.size X ((X.alloc (.cells #[] 63)).alloc (.cells #[.slice sa m sc,.slice none 0 0] 63)).drew:=below_drewN BES0 1
         have BSE:Below X.heap.size X ((X.alloc (.cells #[.slice sa m sc,.slice none 0 0] 63)).alloc (.cells #[] 63)).drew:=below_drewN BSE0 1
         have OE:(X.alloc (.cells #[] 63)).drew.ownsRow X.heap.size 63 2 (.slice (some ⟨X.heap.size,0,none⟩) 0 0) 0 []:=own_heap rfl (World.ownsRow_made X #[] 0 (Nat.le_refl _) (by decide) rfl)
         have OES:((X.alloc (.cells #[] 63)).alloc (.cells #[.slice sa m sc,.slice none 0 0] 63)).drew.ownsRow X.heap.size 63 2 (.slice (some ⟨X.heap.size,0,none⟩) 0 0) 0 []:=own_heap rfl ((World.ownsRow_made X #[] 0 (Nat.le_refl _) (by decide) rfl).alloc _)
         have OSE:((X.alloc (.cells #[.slice sa m sc,.slice none 0 0] 63)).alloc (.cells #[] 63)).drew.ownsRow X.heap.size 63 2 (.slice (some ⟨X.heap.size+1,0,none⟩) 0 0) 0 []:=by
          have:=World.ownsRow_made (base:=X.heap.size) (e:=63) (size:=2) (X.alloc (.cells #[.slice sa m sc,.slice none 0 0] 63)) #[] 0 (by simp) (by decide) rfl
          rw [show (X.alloc (.cells #[.slice sa m sc,.slice none 0 0] 63)).heap.size=X.heap.size+1 from by simp] at this
          exact own_heap rfl this
         have SB:Seg ((X.alloc (.cells #[] 63)).alloc (.cells #[.slice sa m sc,.slice none 0 0] 63)).drew (some ⟨X.heap.size+1,0,none⟩) [.slice sa m sc,.slice none 0 0]:=by
          have:=seg_new (X.alloc (.cells #[] 63)) #[.slice sa m sc,.slice none 0 0] 63
          rw [show (X.alloc (.cells #[] 63)).heap.size=X.heap.size+1 from by simp] at this
          exact Seg.below this (below_drewN (Below.refl _ _) 1)
         have SC0:Seg (X.alloc (.cells #[.slice sa m sc,.slice none 0 0] 63)) (some ⟨X.heap.size,0,none⟩) [.slice sa m sc,.slice none 0 0]:=seg_new X #[.slice sa m sc,.slice none 0 0] 63
         have SC:Seg ((X.alloc (.cells #[.slice sa m sc,.slice none 0 0] 63)).alloc (.cells #[] 63)).drew (some ⟨X.heap.size,0,none⟩) [.slice sa m sc,.slice none 0 0]:=SC0.below (below_drewN ((Below.refl _ _).alloc (Nat.le_refl _) _) 1)
         obtain ⟨x0,x1,x2,x3,x4,x5,x6⟩:=seven_cells DX
         obtain ⟨u0,u1,u2,u3,u4,u5,u6⟩:=seven_cells (below_block BE0 DX)
         clear HH hnot ha hb hab hal hbl hvv hNd' hoa hob' hl2 HJp HLn HSrc HMs tinX ownX HSg D0 p0 p1 p2 p3 p4 p5 p6
         obtain ⟨ob,hob2⟩:∃ ob,ob=ob':=⟨_,rfl⟩
         rw [← hob2] at hgB hnB SB0
         clear hob2
         go_upto_region 10 with fail
         go_region_law
          (first
           | (refine step_append_seg (by rfl) (.tmp 59) (.tmp 62) 51 (by rfl) X.heap.size 63 i0 (.agg #[.slice none 0 0,.slice none 0 0]) 2 48 Tryz.underlying51 hi hz0 hz1 hz2 rfl (by decide) (.slice (some ⟨X.heap.size,0,none⟩) 0 0) 0 [] (by rfl) OE oa jj d (tcells a) (by rfl) hnA (hgA.below BE) lenA (tcells_one a) (by unfold maxLen;omega) (by omega) BE.size ?_;intro va wa owna gra hata;have bla:Below X.heap.size X wa:=BE.grown gra BE.size (fun j hj=>by simp [Value.ownBlock] at hj;omega);have hb1:=bla.size;obtain ⟨r0,r1,r2,r3,r4,r5,r6⟩:=seven_cells (below_block bla DX))
           | (refine step_append_seg (by rfl) (.tmp 59) (.tmp 62) 51 (by rfl) X.heap.size 63 i0 (.agg #[.slice none 0 0,.slice none 0 0]) 2 48 Tryz.underlying51 hi hz0 hz1 hz2 rfl (by decide) (.slice (some ⟨X.heap.size,0,none⟩) 0 0) 0 [] (by rfl) OES oa jj d (tcells a) (by rfl) hnA (hgA.below BES) lenA (tcells_one a) (by unfold maxLen;omega) (by omega) BES.size ?_;intro va wa owna gra hata;have bla:Below X.heap.size X wa:=BES.grown gra BES.size (fun j hj=>by simp [Value.ownBlock] at hj;omega);have hb1:=bla.size;obtain ⟨r0,r1,r2,r3,r4,r5,r6⟩:=seven_cells (below_block bla DX))
           | (refine step_append_seg (by rfl) (.tmp 59) (.tmp 62) 51 (by rfl) X.heap.size 63 i0 (.agg #[.slice none 0 0,.slice none 0 0]) 2 48 Tryz.underlying51 hi hz0 hz1 hz2 rfl (by decide) (.slice (some ⟨X.heap.size+1,0,none⟩) 0 0) 0 [] (by rfl) OSE oa jj d (tcells a) (by rfl) hnA (hgA.below BSE) lenA (tcells_one a) (by unfold maxLen;omega) (by omega) BSE.size ?_;intro va wa owna gra hata;have bla:Below X.heap.size X wa:=BSE.grown gra BSE.size (fun j hj=>by simp [Value.ownBlock] at hj;omega);have hb1:=bla.size;obtain ⟨r0,r1,r2,r3,r4,r5,r6⟩:=seven_cells (below_block bla DX))
           | (refine step_append_seg (by rfl) (.tmp 63) (.tmp 67) 51 (by rfl) X.heap.size 63 i0 (.agg #[.slice none 0 0,.slice none 0 0]) 2 48 Tryz.underlying51 hi hz0 hz1 hz2 rfl (by decide) va (0+jj) ([]++tcells a) (by rfl) (owna.alloc _) (some ⟨wa.heap.size,0,none⟩) 1 1 [.slice sa m sc,.slice none 0 0] (by rfl) (fun h=>by simp at h) (seg_new wa _ _) rfl hone (by unfold maxLen;omega) (by omega) (by simp;omega) ?_;intro vb wb ownb grb hatb;have blb:Below X.heap.size X wb:=(bla.alloc hb1 _).grown grb (by simp;omega) (fun j hj=>(owna.lt j hj).1);have hb2:=blb.size)
           | (refine step_append_seg (by rfl) (.tmp 63) (.tmp 67) 51 (by rfl) X.heap.size 63 i0 (.agg #[.slice none 0 0,.slice none 0 0]) 2 48 Tryz.underlying51 hi hz0 hz1 hz2 rfl (by decide) va (0+jj) ([]++tcells a) (by rfl) (owna) (some ⟨X.heap.size+1,0,none⟩) 1 1 [.slice sa m sc,.slice none 0 0] (by rfl) (fun h=>by simp at h) (seg_grown3 SB gra (fun b off h=>by simp at h;simp [Value.ownBlock];omega)) rfl hone (by unfold maxLen;omega) (by omega) (hb1) ?_;intro vb wb ownb grb hatb;have blb:Below X.heap.size X wb:=bla.grown grb hb1 (fun j hj=>(owna.lt j hj).1);have hb2:=blb.size)
           | (refine step_append_seg (by rfl) (.tmp 63) (.tmp 67) 51 (by rfl) X.heap.size 63 i0 (.agg #[.slice none 0 0,.slice none 0 0]) 2 48 Tryz.underlying51 hi hz0 hz1 hz2 rfl (by decide) va (0+jj) ([]++tcells a) (by rfl) (owna) (some ⟨X.heap.size,0,none⟩) 1 1 [.slice sa m sc,.slice none 0 0] (by rfl) (fun h=>by simp at h) (seg_grown3 SC gra (fun b off h=>by simp at h;simp [Value.ownBlock];omega)) rfl hone (by unfold maxLen;omega) (by omega) (hb1) ?_;intro vb wb ownb grb hatb;have blb:Below X.heap.size X wb:=bla.grown grb hb1 (fun j hj=>(owna.lt j hj).1);have hb2:=blb.size)
           | (refine step_append_seg (by rfl) (.tmp 68) (.tmp 71) 51 (by rfl) X.heap.size 63 i0 (.agg #[.slice none 0 0,.slice none 0 0]) 2 48 Tryz.underlying51 hi hz0 hz1 hz2 rfl (by decide) vb (0+jj+1) ([]++tcells a++[.slice sa m sc,.slice none 0 0]) (by rfl) ownb ob (N-jj) (d-jj) (tcells b) (by rfl) hnB (hgB.below blb) lenB (tcells_one b) (by unfold maxLen;omega) (by omega) hb2 ?_;intro vz wz ownz grz hatz;have blz:Below X.heap.size X wz:=blb.grown grz hb2 (fun j hj=>(ownb.lt j hj).1)))
         all_goals
          go_wp2_with fail
          go_meet
          exact ⟨HFI.out _ _ ownz blz,blz⟩
       case rest =>
        obtain ⟨⟨⟨g,N',Dp,a,b,z,rfl,row,hal,tin,htell,hN',hf4⟩⟩,bcx⟩:=hcut
        have DC:=below_block bcx DX
        have belC:=below_step bcx belX
        have hz:=tin.ln z (by simp)
        obtain ⟨zm,hzm⟩:∃ zm,zm=z.smp.length:=⟨_,rfl⟩
        have hz6:zm≤k:=by rw [hzm];exact hz.few
        have hN1:jj<N':=by
         have:=row.1
         rw [tcells_length'] at this
         simp at this
         omega
        have hji:(jj:Int)<(N':Int):=by omega
        have htl:a.length*2+1<(tcells (a++[z]++b)).length:=by rw [tcells_length'];simp;omega
        have hmid:=(tcells_mid a b z).2
        rw [hal] at htl hmid
        rw [← hzm] at hmid
        have c1:wc.cell? ⟨g,jj*2+1,none⟩=some (.slice z.pa zm z.pc):=(own_slot row htl).1.trans hmid
        have bB:Below wc.heap.size wc (wc.alloc (.cells #[.int .i64 t,.int .i64 v] 34)):=(Below.refl _ _).alloc (Nat.le_refl _) _
        have bBd:Below wc.heap.size wc (wc.alloc (.cells #[.int .i64 t,.int .i64 v] 34)).drew:=below_drewN bB 1
        have c1B:(wc.alloc (.cells #[.int .i64 t,.int .i64 v] 34)).cell? ⟨g,jj*2+1,none⟩=some (.slice z.pa zm z.pc):=(bB.cell (World.block_lt_of_cell? wc _ c1)).trans c1
        have zown:wc.ownsRow w.heap.size 34 2 (.slice z.pa zm z.pc) zm (scells z.smp):=by rw [hzm];exact hz.own
        have zB:=own_below zown bBd
        have segB:Seg (wc.alloc (.cells #[.int .i64 t,.int .i64 v] 34)).drew (some ⟨wc.heap.size,0,none⟩) (scells [(t,v)]):=Seg.below (seg_new wc #[.int .i64 t,.int .i64 v] 34) (below_drewN (Below.refl _ _) 1)
        have rowB:=own_below row bBd
        have hbase:w.heap.size≤(wc.alloc (.cells #[.int .i64 t,.int .i64 v] 34)).drew.heap.size:=Nat.le_trans belC.size bBd.size
        obtain ⟨x0,x1,x2,x3,x4,x5,x6⟩:=seven_cells DC
        obtain ⟨u0,u1,u2,u3,u4,u5,u6⟩:=seven_cells (below_block bB DC)
        have HFI:Hid (∀ (wa:World) (pa:Option Addr) (pc:Nat) (_:wa.ownsRow w.heap.size 34 2 (.slice pa (zm+1) pc) (zm+1) (scells z.smp++scells [(t,v)])) (_:(wc.alloc (.cells #[.int .i64 t,.int .i64 v] 34)).drew.grownBy wa (Value.slice z.pa zm z.pc).ownBlock) (_:(Value.slice pa (zm+1) pc).ownBlock=(Value.slice z.pa zm z.pc).ownBlock∨(Value.slice pa (zm+1) pc).ownBlock=some (wc.alloc (.cells #[.int .i64 t,.int .i64 v] 34)).drew.heap.size),
          ∃ ls',(wa.setCell ⟨g,jj*2+1,none⟩ (.slice pa (zm+1) pc)).ownsRow w.heap.size 63 2 (.slice (some ⟨g,0,none⟩) N' Dp) N' (tcells ls')∧TIn (wa.setCell ⟨g,jj*2+1,none⟩ (.slice pa (zm+1) pc)) w.heap.size l (k+1) ls'∧Hid (lns ls'=toldP [] (dns (l.take (k+1))) (A.take (k+1)))∧Hid (∀ x∈ls',x.ser.length≤4)∧Below w.heap.size w (wa.setCell ⟨g,jj*2+1,none⟩ (.slice pa (zm+1) pc))):=by
         intro wa pa pc owna gra hata
         rw [hzm] at owna gra hata ⊢
         rw [← scells_append] at owna
         obtain ⟨h1,h2,h3⟩:=tin_put row tin bBd owna gra hata belC.size
         rw [hal] at h1 h2 h3
         refine ⟨_,h1,h2,?_,?_,belC.trans h3⟩
         ·show _=_
          rw [HG2.out,htell,lns_mid]
         ·intro y hy
          rcases List.mem_append.1 hy with e | e
          ·rcases List.mem_append.1 e with e | e
           ·exact hf4 y (List.mem_append_left _ (List.mem_append_left _ e))
           ·simp at e
            rw [e]
            exact hf4 z (by simp)
          ·exact hf4 y (List.mem_append_right _ e)
        have HRow:Hid (∀ (wa:World) (_:(wc.alloc (.cells #[.int .i64 t,.int .i64 v] 34)).drew.grownBy wa (Value.slice z.pa zm z.pc).ownBlock),wa.cell? ⟨g,jj*2+1,none⟩=some (.slice z.pa zm z.pc)∧wa.frozen? ⟨g,jj*2+1,none⟩=false):=fun wa gra=>by
         have h1:=own_slot (own_two rowB zB gra (by decide)) htl
         exact ⟨h1.1.trans hmid,h1.2⟩
        clear row hal tin htell hf4 hmid htl zown hz hzm DX D0 p0 p1 p2 p3 p4 p5 p6 HJp HLn HSrc HMs HSg HG2 H5 ownX tinX HH bc2 bcx
        go_upto_region 11 with fail
        go_region_law
         (first
          | (refine step_append_seg (by rfl) (.tmp 79) (.tmp 82) 56 (by rfl) w.heap.size 34 i1 (.agg #[.int .i64 0,.int .i64 0]) 2 16 Tryz.underlying56 hj hy0 hy1 hy2 rfl (by decide) (.slice z.pa zm z.pc) zm (scells z.smp) (by rfl) zB (some ⟨wc.heap.size,0,none⟩) 1 1 (scells [(t,v)]) (by rfl) (fun h=>by simp at h) segB rfl (scells_one _) (by unfold maxLen;omega) (by omega) hbase ?_;intro va wa owna gra hata;obtain ⟨A',Dq,hvA,_,_⟩:=own_open owna;subst hvA;obtain ⟨ls',FI1,FI2,FI3,FI4,FI5⟩:=HFI.out wa A' Dq owna gra hata;obtain ⟨s0,s1⟩:=HRow.out wa gra))
        all_goals
         go_wp2
         go_roundw
         case rel=>exact ⟨k+1,N',Dp,_,ls',by omega,by go_num,rfl,hN',FI1,FI2,FI3,FI4,FI5⟩
         case measure=>simp [intOf];omega
    ·have HG2:Hid (lns ls=toldP [] (dns (l.take (k+1))) (A.take (k+1))):=by show _=_;rw [HG.out,if_neg (fun h=>hE0 h.2)]
     have hE1:(E != 0)=true:=by simpa using hE0
     have hE2:(E == 0)=false:=by simpa using hE0
     have tin1:=tin0.mono (Nat.le_succ k)
     subst hK1
     clear HG HM4 HL hE0 tin0
     go_wp2
     go_roundw
     case rel=>exact ⟨k+1,N,d,oo',ls,by omega,by go_num,rfl,by omega,own0,tin1,HG2,H5,bel0⟩
     case measure=>simp [intOf];omega
   ·have HG2:Hid (lns ls=toldP [] (dns (l.take (k+1))) (A.take (k+1))):=by show _=_;rw [HG.out,if_neg (fun h=>hK1 h.1)]
    have hK2:(K != 1)=true:=by simpa using hK1
    have hK3:(K == 1)=false:=by simpa using hK1
    have tin1:=tin0.mono (Nat.le_succ k)
    clear HG HM4 HL hK1 tin0
    go_wp2
    go_roundw
    case rel=>exact ⟨k+1,N,d,oo',ls,by omega,by go_num,rfl,by omega,own0,tin1,HG2,H5,bel0⟩
    case measure=>simp [intOf];omega
  ·have he:k=n:=by omega
   subst he
   have hl:=HL.out
   rw [List.take_of_length_le (by rw [← HN.out];exact Nat.le_refl _)] at hl
   have FIN:=hide (And.intro own (And.intro tin (And.intro hl bel)))
   clear own tin HL hl bel H5
   go_wp2
   go_ret
   exact ⟨_,_,_,_,rfl,FIN.out.1,FIN.out.2.1,FIN.out.2.2.1,FIN.out.2.2.2⟩
end Go.Proofs.YtoldmigappbjcaaGreatDoor
namespace Go.GrainU
open Go.RowKit
theorem taken_right {b:Bs} {d:Dn} (hk:d.kind=1) (he:(doB b d).2.err=0):wrongS d.se=0:=by
 have e:doB b d=((takeB b d.se d.t d.v).1,⟨(takeB b d.se d.t d.v).2,0,[],0⟩):=by unfold doB;rw [if_pos hk]
 rw [e] at he
 have h2:(takeB b d.se d.t d.v).2=0:=he
 unfold takeB at h2
 by_cases h1:wrongS d.se=0
 ·exact h1
 ·rw [if_pos h1] at h2;exact absurd h2 h1
end Go.GrainU
namespace Go.Proofs.YtoldmigappbjcaaGreatDoor
open Go.RowKit Go.GrainU
theorem told4 {l:List DT} {ys:List AT} (hys:ys.map (fun y=>y.a)=(playB b0 (dns l)).2):∀ k,k<l.length→(dtt l k).d.kind=1→(ys.getD k at0).a.err=0→(dtt l k).d.se.length≤4:=by
 intro k hk h1 h2
 have hkd:k<(dns l).length:=by simp [dns];exact hk
 have hat:=playB_at (l:=dns l) (b:=b0) hkd
 have hd:(dns l)[k]=(dtt l k).d:=by simp [dns,dtt,List.getD,hk]
 have hyl:ys.length=l.length:=by
  have:=congrArg List.length hys
  rw [List.length_map,playB_len] at this
  simpa [dns] using this
 have hky:k<ys.length:=by omega
 rw [← hys,List.getElem?_map,List.getElem?_eq_getElem hky,hd] at hat
 simp only [Option.map_some] at hat
 injection hat with hat
 have hy:(ys.getD k at0)=ys[k]:=by simp [List.getD,List.getElem?_eq_getElem hky]
 rw [hy,hat] at h2
 exact wrongS_len (taken_right h1 h2)
theorem told_all {l:List DT}:toldP [] (dns l) (playB b0 (dns l)).2=lnsB (playB b0 (dns l)).1.l:=told_play (dns l) b0
set_option maxRecDepth 20000 in
set_option maxHeartbeats 8000000 in
theorem lrig_any (l:List DT) (ao:Option Addr) (n cap:Nat) (w:World) (hs:Seg w ao (dcells l)) (hd:∀ x∈l,DIn w x) (hn:n=l.length) (hv:ErrV w) :
  Calls Tryz.prog 5 #[.slice ao n cap] w fun e w'=>e=.returned (.bool true)∧Below w.heap.size w w':=by
 have P0:=hide (lalive_any w hv)
 have HP:=hide (fun (W:World) (hb:Below w.heap.size w W)=>play_any l ao n cap W (hs.below hb) (fun x hx=>(hd x hx).below hb) hn (hv.below hb))
 have HTo:=hide (fun (W:World) (hb:Below w.heap.size w W)=>fun ys A oo M cap2 lo2=>told_any l ys A ao oo n cap M cap2 lo2 W (hs.below hb) (fun x hx=>(hd x hx).below hb) hn)
 have HD:=hide hd
 have HN:=hide hn
 clear hs hd hn hv
 go_enter Tryz.func5,Tryz.ntmps5
 go_wp2_with fail
 refine P0.out.mono ?_
 rintro e w1 ⟨rfl,b1⟩
 have P1:=hide (HP.out w1 b1)
 clear P0 HP
 go_wp2_with fail
 refine P1.out.mono ?_
 intro e w2 hh
 have HH:=hide hh
 clear hh P1
 rcases HH.out with ⟨h120,rfl,b2⟩ | ⟨h120,ro,oo,rn,rc,d,hz,sl,ys,rfl,hrow,hli,hhz,hout,hys,b2⟩
 ·have bel2:=below_step b2 b1
  have HB:Hid (∀ o,Below w.heap.size w (w2.alloc o)):=fun o=>bel2.alloc bel2.size _
  clear HH b2 bel2 HTo
  go_wp2
  go_ret
  exact ⟨rfl,HB.out _⟩
 ·have bel2:=below_step b2 b1
  obtain ⟨A,hA⟩:∃ A,A=(playB b0 (dns l)).2:=⟨_,rfl⟩
  obtain ⟨F,hF⟩:∃ F,F=(playB b0 (dns l)).1:=⟨_,rfl⟩
  have h4:=told4 hys
  have hpl:=told_all (l:=l)
  have hAl:A.length=l.length:=by rw [hA,playB_len];simp [dns]
  have hFi:BInv F:=by rw [hF];exact playB_inv _ b0_inv
  rw [← hA,← hF] at hpl
  rw [← hA] at hys
  rw [← hF] at hli hhz
  have hAt:A.take n=A:=List.take_of_length_le (by rw [hAl,HN.out];exact Nat.le_refl _)
  obtain ⟨W2,hW2⟩:∃ W2,W2=w2.alloc (.cells #[.slice ro rn rc,.int .i64 hz] 26):=⟨_,rfl⟩
  have b3:Below w2.heap.size w2 W2:=by rw [hW2];exact (Below.refl _ _).alloc (Nat.le_refl _) _
  have bel3:=below_step b3 bel2
  have X3:W2.heap[w2.heap.size]?=some (.cells #[.slice ro rn rc,.int .i64 hz] 26 (0,0)):=by rw [hW2];exact heap_alloc_new w2 _
  have PT:=HTo.out W2 bel3 ys A oo l.length d _ (hout.below b3) hys (by rw [HN.out];exact Nat.le_refl _) (by rw [HN.out];exact h120) (fun k hk=>h4 k (by rw [← HN.out];exact hk))
  rw [hAt,hpl] at PT
  rw [← HN.out] at PT h120 ⊢
  have HPT:=hide PT
  have HRow:=hide (hrow.below b3)
  have HLi:=hide hli
  have HHz:=hide hhz
  have HFi:=hide hFi
  have HW2:=hide hW2
  obtain ⟨X,hX⟩:∃ X,X=w2.heap.size:=⟨_,rfl⟩
  rw [← hX] at X3
  have HXX:=hide hX
  clear HH hrow hli hhz hout hys hA hF hpl hAl hFi b2 b3 bel2 b1 hW2 hAt h4 PT HTo hX
  go_upto_region 4 with fail
  rw [← HW2.out,← HXX.out]
  go_wp2_with fail
  refine HPT.out.mono ?_
  rintro e w3 ⟨tq',N,d3,ls,rfl,own3,tin3,hls,b4⟩
  have X4:=below_block b4 X3
  have bel4:=below_step b4 bel3
  have row4:=HRow.out.below b4
  have hNl:N=ls.length:=by have:=own3.1;rw [tcells_length'] at this;omega
  have hNr:N=rn:=by
   have h1:=congrArg List.length hls
   rw [lnsB_len] at h1
   have h2:=row4.len
   have h3:=HLi.out.len
   simp [lns] at h1
   omega
  have hN8:rn≤8:=by
   have h2:=row4.len
   have h3:=HLi.out.len
   have h4:=HFi.out.len
   omega
  obtain ⟨x0,x1,-,-⟩:=two_cells X4
  have HRow4:=hide row4
  have Own3:=hide own3
  have Tin3:=hide tin3
  have HLs:=hide hls
  have HNl:=hide hNl
  have hNN:((rn:Int) != (rn:Int))=false:=by simp
  subst hNr
  clear HPT own3 tin3 hls hNl row4 HRow
  go_wp2
  go_loopw [31] (fun i wr=>∃ k:Nat,k≤N∧i=.int .i64 k∧Below w3.heap.size w3 wr) (fun i _=>N-(intOf i).toNat)
  case atStart=>exact ⟨0,Nat.zero_le _,rfl,Below.refl _ _⟩
  case round =>
   obtain ⟨k,hk,rfl,bel⟩:=hrel
   clear x0 x1
   by_cases hlt:k<N
   ·have hkr:k<sl.length:=by rw [← HRow4.out.len];exact hlt
    have hkF:k<F.l.length:=by rw [← HLi.out.len];exact hkr
    have hkls:k<ls.length:=by rw [← HNl.out];exact hlt
    obtain ⟨bb,off,rfl,hbb,hcell⟩:=seg_shelf HRow4.out.seg hkr
    obtain ⟨tb,toff,rfl,htb,htc⟩:=seg_line (own_seg' Own3.out) hkls
    obtain ⟨x,hx⟩:∃ x,x=sht sl k:=⟨_,rfl⟩
    obtain ⟨z,hz'⟩:∃ z,z=lt ls k:=⟨_,rfl⟩
    have hxs:x.s=(kp F.l k).s:=by rw [hx];exact HLi.out.at hkr
    have hzs:z.ser=x.s.se:=by
     have h1:lser (lns ls) k=lser (lnsB F.l) k:=by rw [HLs.out]
     rw [show lser (lns ls) k=z.ser from by rw [lser_lns hkls,← hz']] at h1
     rw [h1,hxs]
     have:=lnn_lnsB hkF
     unfold lnn at this
     unfold lser
     rw [this]
    have hkee:=HFi.out.kee _ (kp_mem hkF)
    have hsw:Grain.swrong x.s=0:=by rw [hxs];exact (Grain.sr_iff _).2 hkee.sr
    have hft:x.s.ft=hz:=by rw [hxs,HFi.out.ft _ (kp_mem hkF),HHz.out]
    have hse4:x.s.se.length≤4:=by rw [hxs];exact wrongS_len hkee.sr.se
    have xin:ShIn w3 x:=by rw [hx];exact (HRow4.out.shs _ (sht_mem hkr)).shIn
    obtain ⟨zd,hzd,ez1,ez2,ez3⟩:=(Tin3.out.ln z (by rw [hz'];exact lt_mem hkls)).src
    obtain ⟨q0,q1,q2,q3,q4,q5,q6,q7,q8⟩:=hcell k hkr
    obtain ⟨y0,-⟩:=htc k hkls
    rw [← hx] at q0 q1 q2 q3 q4 q5 q6 q7 q8
    rw [← hz'] at y0
    obtain ⟨m,hm⟩:∃ m,m=x.s.se.length:=⟨_,rfl⟩
    have hmz:z.ser.length=m:=by rw [hzs,hm]
    rw [← hm] at q0
    rw [hmz] at y0
    rw [hft] at q6
    obtain ⟨n1,hv1⟩:∃ v,v=x.s.ra.length:=⟨_,rfl⟩
    obtain ⟨n2,hv2⟩:∃ v,v=x.s.fi.length:=⟨_,rfl⟩
    obtain ⟨n3,hv3⟩:∃ v,v=x.s.co.length:=⟨_,rfl⟩
    obtain ⟨rf,hv4⟩:∃ v,v=x.s.rf:=⟨_,rfl⟩
    obtain ⟨ff,hv5⟩:∃ v,v=x.s.ff:=⟨_,rfl⟩
    obtain ⟨cf,hv7⟩:∃ v,v=x.s.cf:=⟨_,rfl⟩
    obtain ⟨ct,hv8⟩:∃ v,v=x.s.ct:=⟨_,rfl⟩
    have PW:Hid (∀ W,Below w3.heap.size w3 W→Calls Tryz.prog 19 #[.agg #[.slice x.a0 m x.c0,.slice x.a1 n1 x.c1,.slice x.a2 n2 x.c2,.slice x.a3 n3 x.c3,.int .i64 rf,.int .i64 ff,.int .i64 hz,.int .i64 cf,.int .i64 ct]] W fun e w'=>e=.returned (.int .i64 0)∧Below W.heap.size W w'):=fun W hb=>by
     have h1:=swrong_any x W (xin.below hb)
     unfold ShT.v at h1
     rw [hsw,← hm,hft,← hv1,← hv2,← hv3,← hv4,← hv5,← hv7,← hv8] at h1
     exact h1
    have PC:Hid (∀ W,Below w3.heap.size w3 W→Calls Tryz.prog 20 #[.slice x.a0 m x.c0,.slice z.sa m z.sc] W fun e w'=>e=.returned (.int .i64 0)∧Below W.heap.size W w'):=fun W hb=>by
     have s1:Seg W x.a0 (lcells x.s.se):=(xin.below hb).g0
     have s2:Seg W z.sa (lcells x.s.se):=by
      rw [← hzs,ez1,ez2]
      exact ((HD.out zd hzd).below (below_step hb bel4)).seg
     have h1:=ncmp_any x.s.se x.s.se x.a0 z.sa m m x.c0 z.sc W s1 s2 hm hm (by omega)
     rw [cmpS_self] at h1
     exact h1
    rw [← hv1] at q1
    rw [← hv2] at q2
    rw [← hv3] at q3
    rw [← hv4] at q4
    rw [← hv5] at q5
    rw [← hv7] at q7
    rw [← hv8] at q8
    have k0:=(bel.cell (p:=⟨bb,_,none⟩) hbb).trans q0
    have k1:=(bel.cell (p:=⟨bb,_,none⟩) hbb).trans q1
    have k2:=(bel.cell (p:=⟨bb,_,none⟩) hbb).trans q2
    have k3:=(bel.cell (p:=⟨bb,_,none⟩) hbb).trans q3
    have k4:=(bel.cell (p:=⟨bb,_,none⟩) hbb).trans q4
    have k5:=(bel.cell (p:=⟨bb,_,none⟩) hbb).trans q5
    have k6:=(bel.cell (p:=⟨bb,_,none⟩) hbb).trans q6
    have k7:=(bel.cell (p:=⟨bb,_,none⟩) hbb).trans q7
    have k8:=(bel.cell (p:=⟨bb,_,none⟩) hbb).trans q8
    obtain ⟨V,hV⟩:∃ V,V=wr.alloc (.cells #[.slice x.a0 m x.c0,.slice x.a1 n1 x.c1,.slice x.a2 n2 x.c2,.slice x.a3 n3 x.c3,.int .i64 rf,.int .i64 ff,.int .i64 hz,.int .i64 cf,.int .i64 ct] 59):=⟨_,rfl⟩
    have bV:Below wr.heap.size wr V:=by rw [hV];exact (Below.refl _ _).alloc (Nat.le_refl _) _
    have V9:V.heap[wr.heap.size]?=some (.cells #[.slice x.a0 m x.c0,.slice x.a1 n1 x.c1,.slice x.a2 n2 x.c2,.slice x.a3 n3 x.c3,.int .i64 rf,.int .i64 ff,.int .i64 hz,.int .i64 cf,.int .i64 ct] 59 (0,0)):=by rw [hV];exact heap_alloc_new wr _
    have belV:=below_step bV bel
    have XV:=below_block belV X4
    have ylt:tb<w3.heap.size:=htb
    obtain ⟨D,hD⟩:∃ D,D=wr.heap.size:=⟨_,rfl⟩
    rw [← hD] at V9
    have HSS:Hid (∀ w',Below V.heap.size V w'→(w'.cell? ⟨D,0,none⟩=some (.slice x.a0 m x.c0)∧w'.cell? ⟨D,1,none⟩=some (.slice x.a1 n1 x.c1)∧w'.cell? ⟨D,2,none⟩=some (.slice x.a2 n2 x.c2)∧w'.cell? ⟨D,3,none⟩=some (.slice x.a3 n3 x.c3)∧w'.cell? ⟨D,4,none⟩=some (.int .i64 rf)∧w'.cell? ⟨D,5,none⟩=some (.int .i64 ff)∧w'.cell? ⟨D,6,none⟩=some (.int .i64 hz)∧w'.cell? ⟨D,7,none⟩=some (.int .i64 cf)∧w'.cell? ⟨D,8,none⟩=some (.int .i64 ct))∧w'.cell? ⟨tb,toff+k*2,none⟩=some (.slice z.sa m z.sc)∧w'.cell? ⟨X,1,none⟩=some (.int .i64 hz)):=fun w' hb'=>by
     have h1:=below_block hb' V9
     have h2:=below_block hb' XV
     refine ⟨⟨?_,?_,?_,?_,?_,?_,?_,?_,?_⟩,((below_step hb' belV).cell (p:=⟨tb,_,none⟩) ylt).trans y0,?_⟩
     ·simp [World.cell?,h1]
     ·simp [World.cell?,h1]
     ·simp [World.cell?,h1]
     ·simp [World.cell?,h1]
     ·simp [World.cell?,h1]
     ·simp [World.cell?,h1]
     ·simp [World.cell?,h1]
     ·simp [World.cell?,h1]
     ·simp [World.cell?,h1]
     ·simp [World.cell?,h2]
    have R0:Below V.heap.size V V.drew:=below_drewN (Below.refl _ _) 1
    have hhh:(hz != hz)=false:=by simp
    have hki:(k:Int)<(N:Int):=by omega
    have HV:=hide hV
    have HDD:=hide hD
    clear hcell htc hx hz' hxs hzs hkee hsw hft hse4 xin hzd ez1 ez2 ez3 q0 q1 q2 q3 q4 q5 q6 q7 q8 y0 hm hmz hv1 hv2 hv3 hv4 hv5 hv7 hv8 hV bV V9 XV hD hkr hkF hkls ylt
    go_upto_region 12 with fail
    rw [← HV.out,← HDD.out]
    go_region_held3 (fun w'=>(w'.cell? ⟨D,0,none⟩=some (.slice x.a0 m x.c0)∧w'.cell? ⟨D,1,none⟩=some (.slice x.a1 n1 x.c1)∧w'.cell? ⟨D,2,none⟩=some (.slice x.a2 n2 x.c2)∧w'.cell? ⟨D,3,none⟩=some (.slice x.a3 n3 x.c3)∧w'.cell? ⟨D,4,none⟩=some (.int .i64 rf)∧w'.cell? ⟨D,5,none⟩=some (.int .i64 ff)∧w'.cell? ⟨D,6,none⟩=some (.int .i64 hz)∧w'.cell? ⟨D,7,none⟩=some (.int .i64 cf)∧w'.cell? ⟨D,8,none⟩=some (.int .i64 ct))∧w'.cell? ⟨tb,toff+k*2,none⟩=some (.slice z.sa m z.sc)∧w'.cell? ⟨X,1,none⟩=some (.int .i64 hz)) (exact HSS.out _ (by with_reducible assumption))
     (first
      | (go_at_call 19;refine (PW.out _ (belV.trans (Below.mono (by with_reducible assumption) belV.size))).mono ?_;rintro e w4 ⟨rfl,b4'⟩;have R4:=below_step b4' (by with_reducible assumption))
      | (go_at_call 20;refine (PC.out _ (belV.trans (Below.mono (by with_reducible assumption) belV.size))).mono ?_;rintro e w5 ⟨rfl,b5'⟩;have R5:=below_step b5' (by with_reducible assumption)))
    all_goals
     have bel5:Below w3.heap.size w3 w5:=belV.trans (R5.mono belV.size)
     clear R0 HSS PW PC R4 b4' b5' R5
     go_wp2
     go_roundw
     case rel=>exact ⟨k+1,by omega,by go_num,bel5⟩
     case measure=>simp [intOf];omega
   ·have X5:=below_block bel X4
    obtain ⟨x0,x1,-,-⟩:=two_cells X5
    have belz:=below_step bel bel4
    have hzz:=HFi.out.hz
    rw [← HHz.out] at hzz
    have hm1:hz%10=0:=hzz.1
    have hm2:hz.tmod 10=0:=by rw [Int.tmod_eq_emod_of_nonneg hzz.2.1];exact hm1
    clear HFi HHz HLi HRow4 Own3 Tin3 HLs HNl X4 X5 bel
    go_wp2
    all_goals (first | (go_ret;exact ⟨rfl,belz⟩) | exact bodyPost_ret (v:=.bool true) (by simp [results,Tryz.results5,go_sem,hm1,hm2]) rfl ⟨rfl,belz⟩)
end Go.Proofs.YtoldmigappbjcaaGreatDoor
