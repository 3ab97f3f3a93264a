/-
  For every input, BaseRolled returns true: rolling is not seen: without all rolls, and with nothing forgotten, what is asked is answered the same, as long as nothing comes too late. The listed variables of the library (internal/strconv.uint64pow10, math/bits.deBruijn32tab, math/bits.deBruijn64tab, strconv.ErrRange, strconv.ErrSyntax) start as the program's text lays them: the card ties them. No other condition
-/
import Derived.Below
import Derived.ChangeMaps5
import Derived.ChangeOld
import Derived.Deep.Slices
import Derived.LaidHandle
import Derived.LaidMore
import Derived.Lib.LaidTab
import Derived.MakeChecks
import Derived.OpenShut
import Derived.ProofKit
import Derived.SevenTiedAt
import Derived.SizedLaws
import Derived.Stop.Joined
import Derived.Stop.LaidErr
import Derived.Test.YtoldmigappbjcaaGreatDoorBaseRolled01
import Derived.Test.YtoldmigappbjcaaGreatDoorBaseRolled02
import Derived.Test.YtoldmigappbjcaaGreatDoorBaseRolled05
import Derived.Test.YtoldmigappbjcaaGreatDoorCards
import Derived.Test.YtoldmigappbjcaaGreatDoorK01
import Derived.Test.YtoldmigappbjcaaGreatDoorK05
import Derived.Test.YtoldmigappbjcaaGreatDoorK14
import Derived.Test.YtoldmigappbjcaaGreatDoorK26
import Derived.Test.YtoldmigappbjcaaGreatDoorK31
import Derived.Test.YtoldmigappbjcaaGreatDoorRows
import Derived.Test.YtoldmigappbjcaaGreatDoorTie
namespace Go.GrainU
open Go.RowKit
theorem seg_of {α:Type} {W:World} {b off len c:Nat} (hc:0<c) (f:Nat→α) (cell:α→List Value) (hcl:∀ x,(cell x).length=c)
  (h:∀ i,i<len→∀ j,j<c→W.cell? ⟨b,off+(i*c+j),none⟩=(cell (f i))[j]?):Seg W (some ⟨b,off,none⟩) ((List.range len).flatMap fun i=>cell (f i)):=by
 refine .inr ⟨b,off,rfl,fun j hj=>?_⟩
 have hl:∀ n,((List.range n).flatMap fun i=>cell (f i)).length=n*c:=by
  intro n
  induction n with
  | zero=>simp
  | succ n ih=>rw [List.range_succ,List.flatMap_append,List.length_append,ih];simp [hcl,Nat.add_mul]
 rw [hl] at hj
 have hat:∀ n i,i<n→∀ q,q<c→((List.range n).flatMap fun i=>cell (f i))[i*c+q]?=(cell (f i))[q]?:=by
  intro n
  induction n with
  | zero=>intro i hi;omega
  | succ n ih =>
   intro i hi q hq
   rw [List.range_succ,List.flatMap_append]
   have hle:(i+1)*c≤(n+1)*c:=Nat.mul_le_mul_right c (by omega)
   rw [Nat.add_mul] at hle
   by_cases e:i<n
   ·have h2:(i+1)*c≤n*c:=Nat.mul_le_mul_right c (by omega)
    rw [Nat.add_mul] at h2
    rw [List.getElem?_append_left (by rw [hl];omega)]
    exact ih i e q hq
   ·have e':i=n:=by omega
    subst e'
    rw [List.getElem?_append_right (by rw [hl];omega),hl,show i*c+q-i*c=q from by omega]
    simp
 have hq:j%c<c:=Nat.mod_lt _ hc
 have hd:j / c<len:=Nat.div_lt_of_lt_mul (by rw [Nat.mul_comm];exact hj)
 have hm:j / c*c+j%c=j:=by rw [Nat.mul_comm];exact Nat.div_add_mod j c
 have h1:=hat len (j / c) hd (j%c) hq
 have h2:=h (j / c) hd (j%c) hq
 rw [hm] at h1 h2
 rw [h1,h2]
open Go.RowKit
theorem list7 {α:Type} {l:List α} (h:l.length=7):∃ a b c d e f g,l=[a,b,c,d,e,f,g]:=by
 match l,h with
 | [a,b,c,d,e,f,g],_=>exact ⟨a,b,c,d,e,f,g,rfl⟩
theorem weights_mem_all {H:Type} {P:Program} {e:TypeId} {l:List (DataW H)} {d:DataW H} (h:d∈l):∀ n∈d.weights P e,n∈DataW.weightsAll P e l:=by
 induction l with
 | nil=>cases h
 | cons a r ih =>
  intro n hn
  simp only [DataW.weightsAll,List.mem_append]
  rcases List.mem_cons.1 h with e | e
  ·rw [e] at hn;exact .inl hn
  ·exact .inr (ih e n hn)
end Go.GrainU
namespace Go.Proofs.YtoldmigappbjcaaGreatDoor
open Go.ChangeShapes Go.WideShapes Go.ChangeAt Go.RowKit Go.GrainU
theorem Tryz.laidOut:laidOutB Tryz.prog=true:=by kernel_rfl
theorem Tryz.cellsStr:Tryz.prog.cellsOf 9=1:=by kernel_rfl
theorem Tryz.cellsInt:Tryz.prog.cellsOf 3=1:=by kernel_rfl
theorem field_str {H:Type} {enc:TypeId×Value→H} {W:World} {n:Nat} {c:Value} {y:DataW H×List MemPlace} (h:DataW.trod enc Tryz.prog W 0 (fun _=>true) true n 9 [c]=some y) (hw:∀ k∈y.1.weights Tryz.prog 9,k≤reachBytes):∃ z:ByteArray,c=.string z∧z.size≤140737488355328:=by
 obtain ⟨z,hz,hy,_⟩:=DataW.trod_string Tryz.underlying9 h
 have:=hw z.data.toList.length (by rw [hy];exact List.mem_singleton.2 rfl)
 refine ⟨z,by simpa using hz,?_⟩
 have hr:reachBytes≤140737488355328:=by decide
 have e:z.size=z.data.toList.length:=by show z.data.size=_;exact Array.length_toList.symm
 omega
theorem field_i64 {H:Type} {enc:TypeId×Value→H} {W:World} {n:Nat} {c:Value} {y:DataW H×List MemPlace} (h:DataW.trod enc Tryz.prog W 0 (fun _=>true) true n 3 [c]=some y):∃ z,c=.int .i64 z:=by
 obtain ⟨z,hz,_,_⟩:=DataW.trod_int Tryz.underlying3 h
 exact ⟨z,by simpa using hz⟩
end Go.Proofs.YtoldmigappbjcaaGreatDoor
namespace Go.GrainU
open Go.RowKit
theorem lcells_flat (l:Lb):lcells l=l.flatMap fun x=>[.string x.1,.string x.2]:=by
 induction l with
 | nil=>rfl
 | cons x r ih=>simp [lcells,ih]
theorem list2 {α:Type} {l:List α} (h:l.length=2):∃ a b,l=[a,b]:=by
 match l,h with
 | [a,b],_=>exact ⟨a,b,rfl⟩
end Go.GrainU
namespace Go.Proofs.YtoldmigappbjcaaGreatDoor
open Go.ChangeShapes Go.WideShapes Go.ChangeAt Go.RowKit Go.GrainU
theorem Tryz.cellsLabel2:Tryz.prog.cellsOf 88=2:=by kernel_rfl
theorem Tryz.cellsSample2:Tryz.prog.cellsOf 34=2:=by kernel_rfl
theorem Tryz.cellsSeries:Tryz.prog.cellsOf 32=1:=by kernel_rfl
theorem Tryz.bytesLabel:Tryz.prog.bytesOf 88=32:=by kernel_rfl
theorem open_list2 {H:Type} {enc:TypeId×Value→H} {W:World} {α:Type} [Inhabited α] {fuel:Nat} {t e:TypeId} {cs:List Value} {x:DataW H×List MemPlace} (cell:α→List Value) (Q:α→Prop) (c:Nat) (hc:0<c) (hcl:∀ a,(cell a).length=c)
  (hcells:Tryz.prog.cellsOf e=c) (_hb:1≤Tryz.prog.bytesOf e) (ht:Tryz.prog.underlying t=some (.slice e)) (h:DataW.trod enc Tryz.prog W 0 (fun _=>true) true fuel t cs=some x) (hw:∀ n∈x.1.weights Tryz.prog t,n≤reachBytes)
  (each:∀ n cs' y,n<fuel→DataW.trod enc Tryz.prog W 0 (fun _=>true) true n e cs'=some y→(∀ k∈y.1.weights Tryz.prog e,k≤reachBytes)→∃ a,cs'=cell a∧Q a) :
  ∃ (l:List α) (ao:Option Addr) (cap:Nat),cs=[.slice ao l.length cap]∧Seg W ao (l.flatMap cell)∧(∀ a∈l,Q a)∧l.length≤cap∧l.length*Tryz.prog.bytesOf e≤reachBytes∧(ao=none→l.length=0∧cap=0)∧cap≤maxLen:=by
 rcases DataW.trod_slice ht h with ⟨hcs,_⟩ | ⟨a,len,cap,elems,rest,n,hn,hcs,hx,_,hl,hm,hlen,hel,hsp,hns⟩
 ·exact ⟨[],none,0,hcs,.inl rfl,fun a ha=>by (cases ha),Nat.le_refl _,by simp,fun _=>⟨rfl,rfl⟩,Nat.zero_le _⟩
 ·have hwt:∀ k,k∈(elems.length+rest.length)*Tryz.prog.bytesOf e::(DataW.weightsAll Tryz.prog e (elems.map (·.1))++DataW.weightsAll Tryz.prog e (rest.map (·.1)))→k≤reachBytes:=by
   intro k hk
   refine hw k ?_
   rw [hx]
   simp only [DataW.weights,ht]
   simpa using hk
  have hlb:len*Tryz.prog.bytesOf e≤reachBytes:=by
   have h1:=hwt _ (List.mem_cons_self ..)
   have h2:len*Tryz.prog.bytesOf e≤(elems.length+rest.length)*Tryz.prog.bytesOf e:=Nat.mul_le_mul_right _ (by omega)
   omega
  have ex:∀ i,i<len→∃ y:α,(∀ j,j<c→W.cell? (a.add (i*c+j))=(cell y)[j]?)∧Q y:=by
   intro i hi
   have h1:=hel i hi
   have hi':i<elems.length:=by omega
   rw [List.getElem?_eq_getElem hi',Option.bind_eq_some_iff] at h1
   obtain ⟨cs',h2,h3⟩:=h1
   rw [hcells] at h2
   obtain ⟨_,hlen',hcc⟩:=World.cells?_some h2
   obtain ⟨y,rfl,hq⟩:=each n cs' _ (by omega) h3 (fun k hk=>hwt k (List.mem_cons_of_mem _ (List.mem_append_left _ (weights_mem_all (List.mem_map_of_mem (List.getElem_mem hi')) k hk))))
   refine ⟨y,fun j hj=>?_,hq⟩
   have:=hcc j hj
   rw [Go.Deep.add_add] at this
   exact this
  obtain ⟨f,hf⟩:=Go.Deep.choose_lt ex
  refine ⟨(List.range len).map f,some a,cap,by simpa using hcs,?_,fun y hy=>?_,by simpa using hl,by simpa using hlb,fun h=>(by cases h),hm⟩
  ·rcases Nat.eq_zero_or_pos len with h0 | h0
   ·subst h0;exact .inl rfl
   ·obtain ⟨b,off,spot⟩:=a
    have hspot:spot=none:=by
     have h1:=(hf 0 h0).1 0 hc
     have h2:0<(cell (f 0)).length:=by rw [hcl];exact hc
     rw [List.getElem?_eq_getElem h2] at h1
     simp only [Nat.zero_mul,Nat.add_zero] at h1
     simpa [Addr.add] using World.cell?_spot h1
    subst hspot
    rw [List.flatMap_map]
    refine seg_of hc f cell hcl (fun i hi j hj=>?_)
    have:=(hf i hi).1 j hj
    rw [Go.WideShapes.add_plain] at this
    exact this
  ·obtain ⟨i,hi,rfl⟩:=List.mem_map.1 hy
   exact (hf i (by simpa using hi)).2
theorem open_lab {H:Type} {enc:TypeId×Value→H} {W:World} {n:Nat} {cs:List Value} {x:DataW H×List MemPlace}
  (h:DataW.trod enc Tryz.prog W 0 (fun _=>true) true n 88 cs=some x) (hw:∀ k∈x.1.weights Tryz.prog 88,k≤reachBytes):∃ k:ByteArray×ByteArray,cs=[.string k.1,.string k.2]∧k.1.size≤140737488355328∧k.2.size≤140737488355328:=by
 obtain ⟨xs,m,_,hx,hl,hlen,hf⟩:=DataW.trod_struct Tryz.underlying88 h
 rw [Tryz.cellsLabel2] at hl
 have hlen':xs.length=2:=hlen
 obtain ⟨c0,c1,rfl⟩:=list2 hl
 obtain ⟨x0,x1,rfl⟩:=list2 hlen'
 have g0:DataW.trod enc Tryz.prog W 0 (fun _=>true) true m 9 ((List.drop 0 [c0,c1]).take (Tryz.prog.cellsOf 9))=some x0:=hf 0 _ rfl
 have g1:DataW.trod enc Tryz.prog W 0 (fun _=>true) true m 9 ((List.drop 1 [c0,c1]).take (Tryz.prog.cellsOf 9))=some x1:=hf 1 _ rfl
 rw [Tryz.cellsStr] at g0 g1
 simp only [List.drop_zero,List.drop_succ_cons,List.take_succ_cons,List.take_zero] at g0 g1
 have hwe:∀ k,k∈DataW.weightsEach Tryz.prog [9,9] [x0.1,x1.1]→k≤reachBytes:=by
  intro k hk
  refine hw k ?_
  rw [hx]
  simp only [DataW.weights,Tryz.underlying88]
  exact hk
 obtain ⟨z0,rfl,s0⟩:=field_str g0 (fun k hk=>hwe k (DataW.weights_mem_each (j:=0) rfl rfl k hk))
 obtain ⟨z1,rfl,s1⟩:=field_str g1 (fun k hk=>hwe k (DataW.weights_mem_each (j:=1) rfl rfl k hk))
 exact ⟨⟨z0,z1⟩,rfl,s0,s1⟩
theorem open_smp {H:Type} {enc:TypeId×Value→H} {W:World} {n:Nat} {cs:List Value} {x:DataW H×List MemPlace}
  (h:DataW.trod enc Tryz.prog W 0 (fun _=>true) true n 34 cs=some x):∃ k:Int×Int,cs=[.int .i64 k.1,.int .i64 k.2]:=by
 obtain ⟨xs,m,_,hx,hl,hlen,hf⟩:=DataW.trod_struct Tryz.underlying34 h
 rw [Tryz.cellsSample2] at hl
 have hlen':xs.length=2:=hlen
 obtain ⟨c0,c1,rfl⟩:=list2 hl
 obtain ⟨x0,x1,rfl⟩:=list2 hlen'
 have g0:DataW.trod enc Tryz.prog W 0 (fun _=>true) true m 3 ((List.drop 0 [c0,c1]).take (Tryz.prog.cellsOf 3))=some x0:=hf 0 _ rfl
 have g1:DataW.trod enc Tryz.prog W 0 (fun _=>true) true m 3 ((List.drop 1 [c0,c1]).take (Tryz.prog.cellsOf 3))=some x1:=hf 1 _ rfl
 rw [Tryz.cellsInt] at g0 g1
 simp only [List.drop_zero,List.drop_succ_cons,List.take_succ_cons,List.take_zero] at g0 g1
 obtain ⟨z0,rfl⟩:=field_i64 g0
 obtain ⟨z1,rfl⟩:=field_i64 g1
 exact ⟨⟨z0,z1⟩,rfl⟩
end Go.Proofs.YtoldmigappbjcaaGreatDoor
namespace Go.GrainU
open Go.RowKit
theorem list6 {α:Type} {l:List α} (h:l.length=6):∃ a b c d e f,l=[a,b,c,d,e,f]:=by
 match l,h with
 | [a,b,c,d,e,f],_=>exact ⟨a,b,c,d,e,f,rfl⟩
end Go.GrainU
namespace Go.Proofs.YtoldmigappbjcaaGreatDoor
open Go.ChangeShapes Go.WideShapes Go.ChangeAt Go.RowKit Go.GrainU
theorem Tryz.cellsDo7:Tryz.prog.cellsOf 36=7:=by kernel_rfl
theorem Tryz.bytesDo:Tryz.prog.bytesOf 36=80:=by kernel_rfl
instance:Inhabited DT:=⟨⟨⟨0,0,0,[],0,0,⟨#[]⟩⟩,none,0⟩⟩
theorem dcells_flat (l:List DT):dcells l=l.flatMap DT.cells:=by
 induction l with
 | nil=>rfl
 | cons x r ih=>simp [dcells,ih]
theorem open_do {H:Type} {enc:TypeId×Value→H} {W:World} {n:Nat} {cs:List Value} {x:DataW H×List MemPlace}
  (h:DataW.trod enc Tryz.prog W 0 (fun _=>true) true n 36 cs=some x) (hw:∀ k∈x.1.weights Tryz.prog 36,k≤reachBytes):∃ k:DT,cs=k.cells∧DIn W k:=by
 obtain ⟨xs,m,_,hx,hl,hlen,hf⟩:=DataW.trod_struct Tryz.underlying36 h
 rw [Tryz.cellsDo7] at hl
 have hlen':xs.length=6:=hlen
 obtain ⟨c0,c1,c2,c3,c4,c5,c6,rfl⟩:=list7 hl
 obtain ⟨x0,x1,x2,x3,x4,x5,rfl⟩:=list6 hlen'
 have g0:DataW.trod enc Tryz.prog W 0 (fun _=>true) true m 3 ((List.drop 0 [c0,c1,c2,c3,c4,c5,c6]).take (Tryz.prog.cellsOf 3))=some x0:=hf 0 _ rfl
 have g1:DataW.trod enc Tryz.prog W 0 (fun _=>true) true m 3 ((List.drop 1 [c0,c1,c2,c3,c4,c5,c6]).take (Tryz.prog.cellsOf 3))=some x1:=hf 1 _ rfl
 have g2:DataW.trod enc Tryz.prog W 0 (fun _=>true) true m 3 ((List.drop 2 [c0,c1,c2,c3,c4,c5,c6]).take (Tryz.prog.cellsOf 3))=some x2:=hf 2 _ rfl
 have g3:DataW.trod enc Tryz.prog W 0 (fun _=>true) true m 32 ((List.drop 3 [c0,c1,c2,c3,c4,c5,c6]).take (Tryz.prog.cellsOf 32))=some x3:=hf 3 _ rfl
 have g4:DataW.trod enc Tryz.prog W 0 (fun _=>true) true m 34 ((List.drop 4 [c0,c1,c2,c3,c4,c5,c6]).take (Tryz.prog.cellsOf 34))=some x4:=hf 4 _ rfl
 have g5:DataW.trod enc Tryz.prog W 0 (fun _=>true) true m 9 ((List.drop 6 [c0,c1,c2,c3,c4,c5,c6]).take (Tryz.prog.cellsOf 9))=some x5:=hf 5 _ rfl
 rw [Tryz.cellsInt] at g0 g1 g2
 rw [Tryz.cellsSeries] at g3
 rw [Tryz.cellsSample2] at g4
 rw [Tryz.cellsStr] at g5
 simp only [List.drop_zero,List.drop_succ_cons,List.take_succ_cons,List.take_zero] at g0 g1 g2 g3 g4 g5
 have hwe:∀ k,k∈DataW.weightsEach Tryz.prog [3,3,3,32,34,9] [x0.1,x1.1,x2.1,x3.1,x4.1,x5.1]→k≤reachBytes:=by
  intro k hk
  refine hw k ?_
  rw [hx]
  simp only [DataW.weights,Tryz.underlying36]
  exact hk
 obtain ⟨z0,rfl⟩:=field_i64 g0
 obtain ⟨z1,rfl⟩:=field_i64 g1
 obtain ⟨z2,rfl⟩:=field_i64 g2
 obtain ⟨ls,sa,sc,e0,sg0,q0,l0,b0,n0,m0⟩:=open_list2 (α:=ByteArray×ByteArray) (fun x=>[.string x.1,.string x.2]) (fun k=>k.1.size≤140737488355328∧k.2.size≤140737488355328) 2 (by decide) (fun _=>rfl) Tryz.cellsLabel2 (by rw [Tryz.bytesLabel];decide) Tryz.underlying32 g3 (fun k hk=>hwe k (DataW.weights_mem_each (j:=3) rfl rfl k hk)) (fun n cs' y _ hy hwy=>open_lab hy hwy)
 obtain ⟨zs,hzs⟩:=open_smp g4
 obtain ⟨z5,rfl,s5⟩:=field_str g5 (fun k hk=>hwe k (DataW.weights_mem_each (j:=5) rfl rfl k hk))
 rw [← lcells_flat] at sg0
 simp at e0 hzs
 subst e0
 obtain ⟨rfl,rfl⟩:=hzs
 refine ⟨⟨⟨z0,z1,z2,ls,zs.1,zs.2,z5⟩,sa,sc⟩,rfl,⟨sg0,?_,n0,by show z5.size≤_;omega⟩⟩
 intro k hk
 have hk':k<ls.length:=hk
 have e:lk ls k=(ls[k]).1∧lv ls k=(ls[k]).2:=by simp [lk,lv,List.getD,List.getElem?_eq_getElem hk']
 have:=q0 _ (List.getElem_mem hk')
 show (lk ls k).size≤_∧(lv ls k).size≤_
 rw [e.1,e.2]
 omega
theorem open_dos {H:Type} {enc:TypeId×Value→H} {W:World} {fuel:Nat} {cs:List Value} {x:DataW H×List MemPlace}
  (h:DataW.trod enc Tryz.prog W 0 (fun _=>true) true fuel 22 cs=some x) (hw:∀ k∈x.1.weights Tryz.prog 22,k≤reachBytes) :
  ∃ (l:List DT) (ao:Option Addr) (cap:Nat),cs=[.slice ao l.length cap]∧Seg W ao (dcells l)∧(∀ x∈l,DIn W x)∧l.length*80≤140737488355328:=by
 obtain ⟨l,ao,cap,e,sg,q,_,b,_,_⟩:=open_list2 (α:=DT) DT.cells (fun x=>DIn W x) 7 (by decide) (fun _=>rfl) Tryz.cellsDo7 (by rw [Tryz.bytesDo];decide) Tryz.underlying22 h hw (fun n cs' y _ hy hwy=>open_do hy hwy)
 rw [← dcells_flat] at sg
 rw [Tryz.bytesDo] at b
 have hr:reachBytes≤140737488355328:=by decide
 exact ⟨l,ao,cap,e,sg,q,by omega⟩
open Go.ChangeShapes Go.WideShapes Go.ChangeAt Go.RowKit Go.GrainU
theorem laid_tab {W:World} (h:laidMetH Tryz.prog Rows.topLateRow.laid W):Tab W∧ErrV W:=by
 rw [MakeChecks.laidMetH_plain _ _ _ (by kernel_rfl)] at h
 refine ⟨Lib.tabIs_of_head Tryz.gTab Tryz.gTabType Tryz.underlying275 Tryz.underlying256 (by kernel_rfl) (by kernel_rfl) h.tail.tail,?_⟩
 obtain ⟨a,s,hv,_⟩:=laid_sentinel h.tail.tail.tail Tryz.gErr Tryz.gErrType Tryz.underlying224 Tryz.rowErr Tryz.underlying305 Tryz.underlying307 rfl rfl Tryz.underlying9 (by kernel_rfl) (by kernel_rfl)
 exact ⟨_,_,hv⟩
theorem laid_door (os:Os) (args:Array Value):laidMetH Tryz.prog Rows.topLateRow.laid ((World.doorLaid Tryz.prog 400 os).forCall (fun _ _=>0) ⟨#[],args,[]⟩).memory :=
 laidMetH_of_parts3 (fuel:=8) (laidMet_of_run' 8 (by kernel_rfl) (by kernel_rfl)) (by kernel_rfl) (by kernel_rfl)
theorem weights_one {H:Type} {t:TypeId} {d:DataW H} (h:(DataW.weightsEach Tryz.prog [t] [d]).all (·≤reachBytes)=true):∀ k∈d.weights Tryz.prog t,k≤reachBytes:=fun k hk=>by
 have:=List.all_eq_true.1 h k (DataW.weights_mem_each (j:=0) rfl rfl k hk)
 exact of_decide_eq_true this
open Go.ChangeShapes Go.WideShapes Go.ChangeAt Go.RowKit Go.GrainU
set_option maxRecDepth 100000 in
theorem baseRolled_lifted (os:Os) (started:os.Started) (H:Type) (enc:TypeId×Value→H) :
  ReturnsInHanded {} Tryz.checked os 4 .any (fun w args=>(Rows.baseRolledSpec.pre enc Tryz.prog Tryz.f4 [] false w args∧laidMetH Tryz.prog Rows.baseRolledRow.laid w)∧sizedMet enc Tryz.prog Tryz.f4 (OpenSpec.ofChange Rows.baseRolledSpec) false w args)
   (Rows.baseRolledSpec.post enc Tryz.prog Tryz.f4 false true false false):=by
 refine returnsInHanded_of_change_and (C:=Tryz.checked) (X:=fun w _=>laidMetH Tryz.prog Rows.baseRolledRow.laid w) (fun _ _ _ hh h=>h.of_heap hh) Tryz.own started (by kernel_rfl) Tryz.func4
  (ChangeSpec.witness_shaped (enc:=enc) (C:=Tryz.checked) (os:=os) (X:=fun w _=>laidMetH Tryz.prog Rows.baseRolledRow.laid w) false (World.doorLaid Tryz.prog 400 os) #[.slice none 0 0] 8 rfl (World.shaped_of_RefB (by kernel_rfl) (by kernel_rfl)) (by kernel_rfl) (by kernel_rfl) (by kernel_rfl) (laid_door os _)) ?_
 intro W base args ds gs before hval0 hW _ hsz0 hL _
 have hval:∀ (j:Nat) t v,Tryz.f4.params[j]?=some t→args[j]?=some v→Value.okWide Tryz.prog W .any base t v:=hval0
 have hsz:(DataW.weightsEach Tryz.prog (Tryz.f4.params.toList++Rows.baseRolledSpec.plain.varTypes Tryz.prog) (ds++gs)).all (·≤reachBytes)=true:=hsz0
 have hW':=hW
 obtain ⟨p,q,hA0,hV,rfl,hfz,hnd⟩:=hW
 have hA:DataW.TrodAll enc Tryz.prog W 0 (fun _=>true) true Tryz.f4.params.toList args.toList ds p:=hA0
 rw [Tryz.params4] at hA hval hsz
 obtain ⟨v0,d0,rfl,rfl,h0⟩:=trodAll_one hA
 obtain ⟨rfl,rfl⟩:=trodVars_none hV
 have lt0:∀ x∈p,x.block<W.heap.size:=by obtain ⟨m,hm⟩:=h0;exact DataW.trod_lt m _ _ _ hm
 obtain ⟨a0,len0,cap0,rfl⟩:=okWide_slice Tryz.underlying22 (hval 0 22 v0 rfl rfl)
 have k0:=h0
 obtain ⟨f0,hf0⟩:=h0
 obtain ⟨l,ao,cap,e0,sg,din,hb⟩:=open_dos hf0 (weights_one hsz)
 simp only [Value.cells,List.cons.injEq,Value.slice.injEq,and_true] at e0
 obtain ⟨rfl,rfl,rfl⟩:=e0
 obtain ⟨hT,hE⟩:=laid_tab hL
 clear hA0 hval0 hsz0 hsz
 refine (lrol_any l a0 l.length cap0 W sg din rfl hE).mono fun e W' ⟨he,bel⟩=>?_
 subst he
 exact ⟨_,rfl,_,_,_,[],_,[],hW',trodAll_mk1 (shut_bool Tryz.underlying4 _),(trodAll_cons_mk (Below.trod Tryz.laidOut (by kernel_rfl) (of_decide_eq_true (by kernel_rfl)) k0 bel lt0) trodAll_mk0),rfl,bel.frame _,fun h=>by cases h⟩
theorem baseRolled_said:Rows.BaseRolledSaid :=
 OpenClaim.holds_of_wide 4 Tryz.f4 rfl rfl rfl rfl rfl rfl rfl ⟨rfl,rfl,rfl,rfl,rfl⟩ rfl rfl rfl rfl rfl (by kernel_rfl) Tryz.func4 (by kernel_rfl)
  (of_decide_eq_true (by kernel_rfl)) (by unfold Func.isWrapper;first | (rw [if_pos (by decide +kernel)];kernel_rfl) | (rw [if_neg (by decide +kernel)];exact ⟨rfl,rfl⟩))
  (fun os started H enc _=>baseRolled_lifted os started H enc)
theorem baseRolled_card:Rows.BaseRolledCardSaid :=
 Claim7.holds_tied_plain_at .later [] [.data, .data, .data, .sentinel, .sentinel] true (true, "594a611b119b19b80c041663e70585f50a9e731ffbf37100dc59137145e933b2") true
  baseRolled_said (fun _ h=>by cases h) (by kernel_rfl) (fun _ h=>by cases h) baseRolled_row_tie rfl ⟨rfl,rfl⟩ (by kernel_rfl) rfl
  (fun f fn hf hfn=>by
   obtain rfl : f = 4 := Option.some.inj ((show Tryz.prog.funcNamed "grainstore/grainlaw9.BaseRolled" = some 4 by kernel_rfl).symm.trans hf) |>.symm
   obtain rfl:fn=Tryz.f4:=(Option.some.inj (Tryz.func4.symm.trans hfn)).symm
   exact ⟨by kernel_rfl,fun j t ht=>by
    rw [Tryz.params4] at ht
    have h3:t=22:=by
     rcases j with _ | j
     ·simpa using ht.symm
     ·simp at ht
    subst h3
    exact (show Tryz.prog.wantsStandIn 22=false by kernel_rfl)⟩)
  (by kernel_rfl)
end Go.Proofs.YtoldmigappbjcaaGreatDoor
