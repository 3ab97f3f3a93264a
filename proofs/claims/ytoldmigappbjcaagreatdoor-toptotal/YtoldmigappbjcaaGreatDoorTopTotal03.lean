import Derived.Below
import Derived.ChangeOld
import Derived.Deep.Slices
import Derived.OpenShut
import Derived.ProofKit
import Derived.SizedLaws
import Derived.Test.YtoldmigappbjcaaGreatDoorK01
import Derived.Test.YtoldmigappbjcaaGreatDoorK05
import Derived.Test.YtoldmigappbjcaaGreatDoorK07
import Derived.Test.YtoldmigappbjcaaGreatDoorK14
import Derived.Test.YtoldmigappbjcaaGreatDoorK26
import Derived.Test.YtoldmigappbjcaaGreatDoorK31
import Derived.Test.YtoldmigappbjcaaGreatDoorRows
import Derived.Test.YtoldmigappbjcaaGreatDoorTopTotal01
import Derived.Test.YtoldmigappbjcaaGreatDoorTopTotal02
namespace Go.GrainU
open Go.RowKit
theorem seg_of {α:Type} {W:World} {b off len c:Nat} (hc:0<c) (f:Nat→α) (cell:α→List Value) (hcl:∀ x,(cell x).length=c)
  (h:∀ i,i<len→∀ j,j<c→W.cell? ⟨b,off+(i*c+j),none⟩=(cell (f i))[j]?):Seg W (some ⟨b,off,none⟩) ((List.range len).flatMap fun i=>cell (f i)):=by
 refine .inr ⟨b,off,rfl,fun j hj=>?_⟩
 have hl:∀ n,((List.range n).flatMap fun i=>cell (f i)).length=n*c:=by
  intro n
  induction n with
  | zero=>simp
  | succ n ih=>rw [List.range_succ,List.flatMap_append,List.length_append,ih];simp [hcl,Nat.add_mul]
 rw [hl] at hj
 have hat:∀ n i,i<n→∀ q,q<c→((List.range n).flatMap fun i=>cell (f i))[i*c+q]?=(cell (f i))[q]?:=by
  intro n
  induction n with
  | zero=>intro i hi;omega
  | succ n ih =>
   intro i hi q hq
   rw [List.range_succ,List.flatMap_append]
   have hle:(i+1)*c≤(n+1)*c:=Nat.mul_le_mul_right c (by omega)
   rw [Nat.add_mul] at hle
   by_cases e:i<n
   ·have h2:(i+1)*c≤n*c:=Nat.mul_le_mul_right c (by omega)
    rw [Nat.add_mul] at h2
    rw [List.getElem?_append_left (by rw [hl];omega)]
    exact ih i e q hq
   ·have e':i=n:=by omega
    subst e'
    rw [List.getElem?_append_right (by rw [hl];omega),hl,show i*c+q-i*c=q from by omega]
    simp
 have hq:j%c<c:=Nat.mod_lt _ hc
 have hd:j / c<len:=Nat.div_lt_of_lt_mul (by rw [Nat.mul_comm];exact hj)
 have hm:j / c*c+j%c=j:=by rw [Nat.mul_comm];exact Nat.div_add_mod j c
 have h1:=hat len (j / c) hd (j%c) hq
 have h2:=h (j / c) hd (j%c) hq
 rw [hm] at h1 h2
 rw [h1,h2]
open Go.RowKit
theorem weights_mem_all {H:Type} {P:Program} {e:TypeId} {l:List (DataW H)} {d:DataW H} (h:d∈l):∀ n∈d.weights P e,n∈DataW.weightsAll P e l:=by
 induction l with
 | nil=>cases h
 | cons a r ih =>
  intro n hn
  simp only [DataW.weightsAll,List.mem_append]
  rcases List.mem_cons.1 h with e | e
  ·rw [e] at hn;exact .inl hn
  ·exact .inr (ih e n hn)
end Go.GrainU
namespace Go.Proofs.YtoldmigappbjcaaGreatDoor
open Go.ChangeShapes Go.WideShapes Go.ChangeAt Go.RowKit Go.GrainU
theorem Tryz.laidOut:laidOutB Tryz.prog=true:=by kernel_rfl
theorem Tryz.cellsInt:Tryz.prog.cellsOf 3=1:=by kernel_rfl
end Go.Proofs.YtoldmigappbjcaaGreatDoor
namespace Go.GrainU
open Go.RowKit
end Go.GrainU
namespace Go.Proofs.YtoldmigappbjcaaGreatDoor
open Go.ChangeShapes Go.WideShapes Go.ChangeAt Go.RowKit Go.GrainU
theorem open_list2 {H:Type} {enc:TypeId×Value→H} {W:World} {α:Type} [Inhabited α] {fuel:Nat} {t e:TypeId} {cs:List Value} {x:DataW H×List MemPlace} (cell:α→List Value) (Q:α→Prop) (c:Nat) (hc:0<c) (hcl:∀ a,(cell a).length=c)
  (hcells:Tryz.prog.cellsOf e=c) (_hb:1≤Tryz.prog.bytesOf e) (ht:Tryz.prog.underlying t=some (.slice e)) (h:DataW.trod enc Tryz.prog W 0 (fun _=>true) true fuel t cs=some x) (hw:∀ n∈x.1.weights Tryz.prog t,n≤reachBytes)
  (each:∀ n cs' y,n<fuel→DataW.trod enc Tryz.prog W 0 (fun _=>true) true n e cs'=some y→(∀ k∈y.1.weights Tryz.prog e,k≤reachBytes)→∃ a,cs'=cell a∧Q a) :
  ∃ (l:List α) (ao:Option Addr) (cap:Nat),cs=[.slice ao l.length cap]∧Seg W ao (l.flatMap cell)∧(∀ a∈l,Q a)∧l.length≤cap∧l.length*Tryz.prog.bytesOf e≤reachBytes∧(ao=none→l.length=0∧cap=0)∧cap≤maxLen:=by
 rcases DataW.trod_slice ht h with ⟨hcs,_⟩ | ⟨a,len,cap,elems,rest,n,hn,hcs,hx,_,hl,hm,hlen,hel,hsp,hns⟩
 ·exact ⟨[],none,0,hcs,.inl rfl,fun a ha=>by (cases ha),Nat.le_refl _,by simp,fun _=>⟨rfl,rfl⟩,Nat.zero_le _⟩
 ·have hwt:∀ k,k∈(elems.length+rest.length)*Tryz.prog.bytesOf e::(DataW.weightsAll Tryz.prog e (elems.map (·.1))++DataW.weightsAll Tryz.prog e (rest.map (·.1)))→k≤reachBytes:=by
   intro k hk
   refine hw k ?_
   rw [hx]
   simp only [DataW.weights,ht]
   simpa using hk
  have hlb:len*Tryz.prog.bytesOf e≤reachBytes:=by
   have h1:=hwt _ (List.mem_cons_self ..)
   have h2:len*Tryz.prog.bytesOf e≤(elems.length+rest.length)*Tryz.prog.bytesOf e:=Nat.mul_le_mul_right _ (by omega)
   omega
  have ex:∀ i,i<len→∃ y:α,(∀ j,j<c→W.cell? (a.add (i*c+j))=(cell y)[j]?)∧Q y:=by
   intro i hi
   have h1:=hel i hi
   have hi':i<elems.length:=by omega
   rw [List.getElem?_eq_getElem hi',Option.bind_eq_some_iff] at h1
   obtain ⟨cs',h2,h3⟩:=h1
   rw [hcells] at h2
   obtain ⟨_,hlen',hcc⟩:=World.cells?_some h2
   obtain ⟨y,rfl,hq⟩:=each n cs' _ (by omega) h3 (fun k hk=>hwt k (List.mem_cons_of_mem _ (List.mem_append_left _ (weights_mem_all (List.mem_map_of_mem (List.getElem_mem hi')) k hk))))
   refine ⟨y,fun j hj=>?_,hq⟩
   have:=hcc j hj
   rw [Go.Deep.add_add] at this
   exact this
  obtain ⟨f,hf⟩:=Go.Deep.choose_lt ex
  refine ⟨(List.range len).map f,some a,cap,by simpa using hcs,?_,fun y hy=>?_,by simpa using hl,by simpa using hlb,fun h=>(by cases h),hm⟩
  ·rcases Nat.eq_zero_or_pos len with h0 | h0
   ·subst h0;exact .inl rfl
   ·obtain ⟨b,off,spot⟩:=a
    have hspot:spot=none:=by
     have h1:=(hf 0 h0).1 0 hc
     have h2:0<(cell (f 0)).length:=by rw [hcl];exact hc
     rw [List.getElem?_eq_getElem h2] at h1
     simp only [Nat.zero_mul,Nat.add_zero] at h1
     simpa [Addr.add] using World.cell?_spot h1
    subst hspot
    rw [List.flatMap_map]
    refine seg_of hc f cell hcl (fun i hi j hj=>?_)
    have:=(hf i hi).1 j hj
    rw [Go.WideShapes.add_plain] at this
    exact this
  ·obtain ⟨i,hi,rfl⟩:=List.mem_map.1 hy
   exact (hf i (by simpa using hi)).2
open Go.ChangeShapes Go.WideShapes Go.ChangeAt Go.RowKit Go.GrainU
theorem Tryz.bytesInt1:Tryz.prog.bytesOf 3=8:=by kernel_rfl
theorem icells_flat (l:List Int):icells l=l.flatMap fun x=>[.int .i64 x]:=by
 induction l with
 | nil=>rfl
 | cons x r ih =>
  have e:icells (x::r)=.int .i64 x::icells r:=rfl
  rw [e,ih]
  rfl
theorem open_nums {H:Type} {enc:TypeId×Value→H} {W:World} {fuel:Nat} {cs:List Value} {x:DataW H×List MemPlace}
  (h:DataW.trod enc Tryz.prog W 0 (fun _=>true) true fuel 55 cs=some x) (hw:∀ k∈x.1.weights Tryz.prog 55,k≤reachBytes) :
  ∃ (l:List Int) (ao:Option Addr) (cap:Nat),cs=[.slice ao l.length cap]∧Seg W ao (icells l)∧l.length≤cap∧l.length*8≤reachBytes∧(ao=none→l.length=0∧cap=0)∧cap≤9223372036854775807:=by
 obtain ⟨l,ao,cap,e,sg,_,l1,b,n1,m1⟩:=open_list2 (α:=Int) (fun x=>[.int .i64 x]) (fun _=>True) 1 (by decide) (fun _=>rfl) Tryz.cellsInt (by rw [Tryz.bytesInt1];decide) Tryz.underlying55 h hw (fun n cs' y _ hy _=>by
  obtain ⟨z,hz,_,_⟩:=DataW.trod_int Tryz.underlying3 hy
  exact ⟨z,hz,trivial⟩)
 rw [← icells_flat] at sg
 rw [Tryz.bytesInt1] at b
 exact ⟨l,ao,cap,e,sg,l1,b,n1,by unfold maxLen at m1;exact m1⟩
end Go.Proofs.YtoldmigappbjcaaGreatDoor
namespace Go.GrainU
open Go.RowKit
theorem lpos_eq {s:Lb}:∀ {o:List Ln} {j:Nat},(∀ i,i<j→cmpS (lser o i) s<0)→j≤o.length→(j=o.length∨¬ cmpS (lser o j) s<0)→lpos o s=j
 | [],j,_,hj,_=>by
  have:j=0:=by simpa using hj
  subst this;rfl
 | x::r,0,_,_,h2=>by
  have h3:¬ cmpS x.1 s<0:=by
   rcases h2 with h | h
   ·simp at h
   ·simpa [lser] using h
  simp [lpos,h3]
 | x::r,j+1,h1,hj,h2=>by
  have h3:cmpS x.1 s<0:=by simpa [lser] using h1 0 (by omega)
  have ih:=lpos_eq (s:=s) (o:=r) (j:=j) (fun i hi=>by simpa [lser] using h1 (i+1) (by omega)) (by simpa using hj) (by
   rcases h2 with h | h
   ·left;simpa using h
   ·right;simpa [lser] using h)
  unfold lpos at ih ⊢
  simp only [List.takeWhile_cons,h3,decide_true,if_true,List.length_cons,ih]
theorem tell_new {a b:List Ln} {s:Lb} {x:Int×Int} (hl:lpos (a++b) s=a.length) (hn:b=[]∨cmpS (lser b 0) s≠0):tellP (a++b) s x=a++[(s,[x])]++b:=by
 have hh:¬ lhas (a++b) s=true:=by
  unfold lhas
  rw [hl]
  rcases hn with h | h
  ·subst h;simp
  ·intro hc
   simp only [Bool.and_eq_true,decide_eq_true_eq] at hc
   apply h
   have:=hc.2
   rw [show (lnn (a++b) a.length).1=lser b 0 from by simp [lnn,lser,List.getD,List.getElem?_append_right (Nat.le_refl a.length)]] at this
   exact this
 unfold tellP
 rw [if_neg hh,hl]
 simp
end Go.GrainU
namespace Go.Proofs.YtoldmigappbjcaaGreatDoor
open Go.RowKit Go.GrainU
end Go.Proofs.YtoldmigappbjcaaGreatDoor
namespace Go.GrainU
open Go.RowKit
end Go.GrainU
namespace Go.Proofs.YtoldmigappbjcaaGreatDoor
open Go.RowKit Go.GrainU
theorem lastA_snoc {l:List Dn} {d:Dn} (h:l.length+1≤120):lastA (l++[d])=(doB (playB b0 l).1 d).2:=by
 unfold lastA
 rw [if_neg (by simp;omega),playB_snoc]
 have:=playB_len l b0
 simp [List.getD,this]
open Go.RowKit Go.GrainU
theorem blk_beside {w w':World} {base e size n k:Nat} {v:Value} {xs:List Value} {c:Array Value} {t:TypeId} {fr:Nat×Nat} (h:w.ownsRow base e size v n xs) (hg:w.grownBy w' v.ownBlock) (hk:w.heap[k]?=some (.cells c t fr)) (ht:t≠e):w'.heap[k]?=some (.cells c t fr):=by
 rw [hg.block k (lt_of_block hk) (fun h1=>by
  obtain ⟨c',fr',k2⟩:=own_is h k h1.symm
  rw [hk] at k2
  injection k2 with k2
  injection k2 with _ k3 _
  exact ht k3)]
 exact hk
set_option maxHeartbeats 1000000 in
theorem tadd_blk (h:ByteArray) (t v:Int) (w:World) :
  Calls Tryz.prog 33 #[.string h,.int .i64 t,.int .i64 v] w fun e w'=>∃ S:Nat,e=.returned (.agg #[.int .i64 1,.int .i64 0,.int .i64 0,.slice (some ⟨S,0,none⟩) 1 1,.int .i64 t,.int .i64 v,.string ⟨#[]⟩])∧w'.heap[S]?=some (.cells #[.string hostB,.string h] 88 (0,0))∧Below w.heap.size w w':=by
 have FIN:∀ o,Hid (((w.alloc o).alloc (.cells #[.string hostB,.string h] 88)).heap[w.heap.size+1]?=some (.cells #[.string hostB,.string h] 88 (0,0))∧Below w.heap.size w ((w.alloc o).alloc (.cells #[.string hostB,.string h] 88))):=by
  intro o
  refine ⟨?_,((Below.refl _ _).alloc (Nat.le_refl _) _).alloc (by simp) _⟩
  have:=heap_alloc_new (w.alloc o) (.cells #[.string hostB,.string h] 88)
  simpa using this
 have HF:=hide FIN
 clear FIN
 unfold hostB at HF ⊢
 go_enter Tryz.func33,Tryz.ntmps33
 go_wp2
 exact bodyPost_ret (v:=.agg #[.int .i64 1,.int .i64 0,.int .i64 0,.slice (some ⟨w.heap.size+1,0,none⟩) 1 1,.int .i64 t,.int .i64 v,.string ⟨#[]⟩]) (by simp [results,Tryz.results33,go_sem]) rfl ⟨_,rfl,(HF.out _).out.1,(HF.out _).out.2⟩
theorem din_blk {w:World} {S:Nat} {h:ByteArray} {t v:Int} (hb:w.heap[S]?=some (.cells #[.string hostB,.string h] 88 (0,0))) (hh:h.size≤9223372036854775807):DIn w ⟨dAdd h t v,some ⟨S,0,none⟩,1⟩:=by
 obtain ⟨c0,c1,_,_⟩:=two_cells hb
 refine ⟨.inr ⟨S,0,rfl,fun j hj=>?_⟩,?_,fun h=>(by cases h),by show (ByteArray.mk #[]).size≤_;decide⟩
 ·have hj2:j<2:=by simpa [dAdd,lcells] using hj
  rcases j with _ | _ | j
  ·exact c0
  ·exact c1
  ·omega
 ·intro k hk
  have:k=0:=by simp [dAdd] at hk;exact hk
  subst this
  exact ⟨by show hostB.size≤_;decide,hh⟩
theorem dns_append (a b:List DT):dns (a++b)=dns a++dns b:=by simp [dns]
open Go.RowKit Go.GrainU
def etN (n:Int):ET:=.node ⟨1,n,0,lit [],[],[]⟩ ⟨none,0,none,0,none,0⟩ []
theorem etN_prt {n:Int} (h0:0≤n) (h1:n≤1000000):prt (etN n).ex=(itoaB n,0):=by
 have e:(etN n).ex=.mk ⟨1,n,0,lit [],[],[]⟩ []:=rfl
 have ha:alone ⟨1,n,0,lit [],[],[]⟩ 0=0:=by
  unfold alone
  rw [if_pos rfl,if_pos rfl,if_neg (by simp only;omega)]
 have hwr:wr (.mk ⟨1,n,0,lit [],[],[]⟩ []) 1 0=(0,0+1):=by
  rw [wr,if_neg (by omega),if_pos (by simpa using ha),wrL]
 have hrt:=(wr_ok _ 1 0 (by omega) (show (wr (.mk ⟨1,n,0,lit [],[],[]⟩ []) 1 0).1=0 by rw [hwr])).1
 have hs:=tx_size _ hrt
 have hc:cnt (.mk ⟨1,n,0,lit [],[],[]⟩ [])=1:=rfl
 rw [hc] at hs
 have ht:tx (.mk ⟨1,n,0,lit [],[],[]⟩ [])=itoaB n:=by rw [tx,bodyT,if_pos rfl]
 unfold prt
 rw [e,hwr,if_pos rfl,if_neg (by omega),ht]
theorem etN_in (n:Int) (w:World):(etN n).In w:=by
 unfold etN
 simp only [ET.In]
 refine ⟨⟨.inl rfl,.inl rfl,.inl rfl⟩,?_,?_⟩
 ·simp [lit];decide
 ·exact inL_of fun k hk=>by cases hk
set_option maxHeartbeats 1000000 in
theorem titoa_any (n:Int) (h0:0≤n) (h1:n≤1000000) (w:World) (hT:Tab w) :
  Calls Tryz.prog 32 #[.int .i64 n] w fun e w'=>e=.returned (.string (itoaB n))∧Below w.heap.size w w':=by
 have P:=hide (pprint_any (etN n) w (etN_in n w) hT)
 rw [etN_prt h0 h1] at P
 obtain ⟨S,hS⟩:∃ S,S=itoaB n:=⟨_,rfl⟩
 rw [← hS] at P ⊢
 have ev:eval (etN n)=.agg #[.int .i64 1,.int .i64 n,.int .i64 0,.string ⟨#[]⟩,.slice none 0 0,.slice none 0 0,.slice none 0 0]:=rfl
 rw [ev] at P
 clear hS ev
 go_enter Tryz.func32,Tryz.ntmps32
 go_wp2_with fail
 refine P.out.mono ?_
 rintro e w1 ⟨rfl,b1⟩
 clear P
 go_wp2
 go_ret
 exact ⟨rfl,b1⟩
end Go.Proofs.YtoldmigappbjcaaGreatDoor
namespace Go.GrainU
open Go.RowKit
end Go.GrainU
namespace Go.Proofs.YtoldmigappbjcaaGreatDoor
open Go.RowKit Go.GrainU
def Dlx (w:World) (x:DT):Prop:=(∃ S h t v,x=⟨dAdd h t v,some ⟨S,0,none⟩,1⟩∧h.size≤9223372036854775807∧w.heap[S]?=some (.cells #[.string hostB,.string h] 88 (0,0)))∨(∃ d,x=⟨d,none,0⟩∧d.se=[]∧d.tx.size≤9223372036854775807)
def Dls (w:World) (l:List DT):Prop:=∀ x∈l,Dlx w x
theorem Dlx.below {w w':World} {x:DT} (h:Dlx w x) (hb:Below w.heap.size w w'):Dlx w' x:=by
 rcases h with ⟨S,h,t,v,e,hh,hS⟩ | h
 ·exact .inl ⟨S,h,t,v,e,hh,below_block hb hS⟩
 ·exact .inr h
theorem Dls.below {w w':World} {l:List DT} (h:Dls w l) (hb:Below w.heap.size w w'):Dls w' l:=fun x hx=>(h x hx).below hb
theorem Dls.row {w w':World} {base e size n:Nat} {l:List DT} {v:Value} {xs:List Value} (h:Dls w l) (ho:w.ownsRow base e size v n xs) (hg:w.grownBy w' v.ownBlock) (ht:88≠e):Dls w' l:=fun x hx=>by
 rcases h x hx with ⟨S,h,t,v,e,hh,hS⟩ | h
 ·exact .inl ⟨S,h,t,v,e,hh,blk_beside ho hg hS ht⟩
 ·exact .inr h
theorem Dls.push {w:World} {l:List DT} {x:DT} (h:Dls w l) (hx:Dlx w x):Dls w (l++[x]):=fun y hy=>by
 rcases List.mem_append.1 hy with e | e
 ·exact h y e
 ·simp at e;rw [e];exact hx
theorem Dls.din {w:World} {l:List DT} (h:Dls w l):∀ x∈l,DIn w x:=fun x hx=>by
 rcases h x hx with ⟨S,h,t,v,e,hh,hS⟩ | ⟨d,e,h1,h2⟩
 ·rw [e];exact din_blk hS hh
 ·rw [e];exact din_none _ _ h1 h2
theorem dcells_one (l:List DT):∀ u∈dcells l,u.oneCell'=true:=by
 induction l with
 | nil=>intro u hu;cases hu
 | cons x r ih =>
  intro u hu
  rcases List.mem_append.1 (show u∈x.cells++dcells r from hu) with e | e
  ·simp only [DT.cells,List.mem_cons,List.not_mem_nil,or_false] at e
   rcases e with e | e | e | e | e | e | e <;> (subst e;rfl)
  ·exact ih u e
open Go.RowKit Go.GrainU
def hB (i:Nat):ByteArray:=⟨#[UInt8.ofNat (97+i)]⟩
def serH (i:Nat):Lb:=[(hostB,hB i)]
theorem serH_all:((List.range 8).all fun k=>(List.range k).all fun i=>decide (cmpS (serH i) (serH k)<0))=true:=by kernel_rfl
theorem serH_lt {k i:Nat} (hk:k<8) (hi:i<k):cmpS (serH i) (serH k)<0:=by
 have h:=List.all_eq_true.1 serH_all k (List.mem_range.2 hk)
 have h2:=List.all_eq_true.1 h i (List.mem_range.2 hi)
 exact of_decide_eq_true h2
theorem serH_oks:((List.range 8).all fun k=>decide (wrongS (serH k)=0))=true:=by kernel_rfl
theorem serH_ok {k:Nat} (hk:k<8):wrongS (serH k)=0:=of_decide_eq_true (List.all_eq_true.1 serH_oks k (List.mem_range.2 hk))
def totD (τ:Int):Nat→List Int→List Dn
 | _,[]=>[]
 | s,v::r=>dAdd (hB s) τ v::totD τ (s+1) r
def totN (τ:Int):Nat→List Int→List Ln
 | _,[]=>[]
 | s,v::r=>(serH s,[(τ,v)])::totN τ (s+1) r
def totC:Nat→List Int→List Cl
 | _,[]=>[]
 | s,v::r=>(serH s,v)::totC (s+1) r
theorem totD_snoc (τ v:Int):∀ (l:List Int) (s:Nat),totD τ s (l++[v])=totD τ s l++[dAdd (hB (s+l.length)) τ v]
 | [],s=>rfl
 | x::r,s=>by
  simp only [List.cons_append,totD,totD_snoc τ v r,List.length_cons]
  rw [show s+1+r.length=s+(r.length+1) from by omega]
theorem totN_snoc (τ v:Int):∀ (l:List Int) (s:Nat),totN τ s (l++[v])=totN τ s l++[(serH (s+l.length),[(τ,v)])]
 | [],s=>rfl
 | x::r,s=>by
  simp only [List.cons_append,totN,totN_snoc τ v r,List.length_cons]
  rw [show s+1+r.length=s+(r.length+1) from by omega]
theorem totN_len (τ:Int):∀ (l:List Int) (s:Nat),(totN τ s l).length=l.length
 | [],s=>rfl
 | x::r,s=>by simp [totN,totN_len τ r]
theorem totD_len (τ:Int):∀ (l:List Int) (s:Nat),(totD τ s l).length=l.length
 | [],s=>rfl
 | x::r,s=>by simp [totD,totD_len τ r]
theorem totN_ser (τ:Int):∀ (l:List Int) (s i:Nat),i<l.length→lser (totN τ s l) i=serH (s+i)
 | [],s,i,h=>by simp at h
 | x::r,s,0,_=>rfl
 | x::r,s,i+1,h=>by
  have:=totN_ser τ r (s+1) i (by simpa using h)
  rw [show lser (totN τ s (x::r)) (i+1)=lser (totN τ (s+1) r) i from by simp [lser,totN],this,show s+1+i=s+(i+1) from by omega]
theorem totN_few (τ:Int):∀ (l:List Int) (s:Nat),∀ x∈totN τ s l,x.2.length≤1
 | [],s,x,h=>by cases h
 | v::r,s,x,h=>by
  rcases List.mem_cons.1 h with e | e
  ·rw [e];simp
  ·exact totN_few τ r (s+1) x e
structure TotB (b:Bs) (τ:Int) (l:List Int):Prop where
 i:BInv b
 w:Whole b
 hz:b.hz=0
 ln:lnsB b.l=totN τ 0 l
theorem TotB.few {b:Bs} {τ:Int} {l:List Int} (h:TotB b τ l):FewB 500 b:=by
 intro k hk
 have h1:(k.s.se,k.A)∈lnsB b.l:=List.mem_map_of_mem hk
 rw [h.ln] at h1
 have:=totN_few τ l 0 _ h1
 simp only at this
 omega
theorem tot_base {τ:Int} (t0:0≤τ) (t1:τ≤1000000):∀ l:List Int,l.length≤8→(∀ v∈l,-1000≤v∧v≤1000)→TotB (playB b0 (totD τ 0 l)).1 τ l:=by
 refine Grain.snoc_ind ?_ ?_
 ·intro _ _
  exact ⟨b0_inv,fun k hk=>by simp [totD,playB,b0] at hk,rfl,rfl⟩
 ·intro l v ih h8 hv
  have h8':l.length<8:=by simp at h8;omega
  have h:=ih (by omega) (fun x hx=>hv x (List.mem_append_left _ hx))
  have hvv:=hv v (by simp)
  have hin:Grain.inR τ v=true:=by simp [Grain.inR];omega
  rw [totD_snoc,playB_snoc,Nat.zero_add]
  have e:(doB (playB b0 (totD τ 0 l)).1 (dAdd (hB l.length) τ v)).1=(takeB (playB b0 (totD τ 0 l)).1 (serH l.length) τ v).1:=rfl
  simp only [e]
  have hlp:lpos (totN τ 0 l) (serH l.length)=(totN τ 0 l).length:=lpos_eq (fun i hi=>by
   rw [totN_len] at hi
   rw [totN_ser τ l 0 i hi,Nat.zero_add]
   exact serH_lt h8' hi) (Nat.le_refl _) (.inl rfl)
  have hb0:bhas (playB b0 (totD τ 0 l)).1.l (serH l.length)=false:=by
   rw [← lhas_lnsB,h.ln]
   unfold lhas
   rw [hlp]
   simp
  have hbl:(playB b0 (totD τ 0 l)).1.l.length=l.length:=by
   have:=congrArg List.length h.ln
   rw [lnsB_len,totN_len] at this
   exact this
  have herr:(takeB (playB b0 (totD τ 0 l)).1 (serH l.length) τ v).2=0:=by
   unfold takeB
   rw [if_neg (by simp [serH_ok h8']),if_neg (by rw [hin];decide),if_neg (by rw [h.hz];omega),if_neg (by rw [hb0];decide),putN_err h.i (serH_ok h8') hin (by rw [h.hz];omega),if_neg (by omega)]
  refine ⟨takeB_inv h.i _ _ _,whole_take h.w _ _ _,by rw [takeB_hz];exact h.hz,?_⟩
  rw [tell_take herr,h.ln,totN_snoc,Nat.zero_add]
  have:=tell_new (a:=totN τ 0 l) (b:=[]) (s:=serH l.length) (x:=(τ,v)) (by rw [List.append_nil];exact hlp) (.inl rfl)
  rw [List.append_nil,List.append_nil] at this
  exact this
def mtH:Mt:=⟨3,hostB,lit []⟩
def mtA:Mt:=⟨2,hostB,hB 0⟩
theorem says_h (s:Nat):says (serH s) [mtH]=true:=by
 simp [says,serH,mtH,find,sayM]
theorem says_as:((List.range 8).all fun k=>says (serH k) [mtA] == decide (k≠0))=true:=by kernel_rfl
theorem says_a {k:Nat} (hk:k<8):says (serH k) [mtA]=decide (k≠0):=by
 have:=List.all_eq_true.1 says_as k (List.mem_range.2 hk)
 simpa using this
theorem one_win {T:Int} (h:1≤T) (v:Int):Grain.win [(T-1,v)] (T-T) T=[(T-1,v)]:=by
 unfold Grain.win
 rw [List.filter_eq_self]
 intro x hx
 simp at hx
 subst hx
 simp
 omega
theorem one_last (τ v:Int):valP (lit [108,97,115,116]) (Grain.of [(τ,v)])=(v,true):=rfl
theorem one_sum (τ v:Int):valP (lit [115,117,109]) (Grain.of [(τ,v)])=(v,true):=rfl
theorem win_last {T:Int} (h:1≤T):∀ (l:List Int) (s:Nat),winC (totN (T-1) s l) ⟨2,0,T,lit [108,97,115,116],[mtH],[]⟩ T=totC s l
 | [],s=>rfl
 | v::r,s=>by
  have e:winC (totN (T-1) s (v::r)) ⟨2,0,T,lit [108,97,115,116],[mtH],[]⟩ T=(if says (serH s) [mtH]=true then (if (valP (lit [108,97,115,116]) (Grain.of (Grain.win [(T-1,v)] (T-T) T))).2=true then [(serH s,(valP (lit [108,97,115,116]) (Grain.of (Grain.win [(T-1,v)] (T-T) T))).1)] else []) else [])++winC (totN (T-1) (s+1) r) ⟨2,0,T,lit [108,97,115,116],[mtH],[]⟩ T:=rfl
  rw [e,win_last h r (s+1),if_pos (says_h s),one_win h,one_last,if_pos rfl]
  rfl
theorem win_nota {T:Int} (h:1≤T):∀ (l:List Int) (s:Nat),1≤s→s+l.length≤8→winC (totN (T-1) s l) ⟨2,0,T,lit [115,117,109],[mtA],[]⟩ T=totC s l
 | [],s,_,_=>rfl
 | v::r,s,h1,h8=>by
  simp only [List.length_cons] at h8
  have e:winC (totN (T-1) s (v::r)) ⟨2,0,T,lit [115,117,109],[mtA],[]⟩ T=(if says (serH s) [mtA]=true then (if (valP (lit [115,117,109]) (Grain.of (Grain.win [(T-1,v)] (T-T) T))).2=true then [(serH s,(valP (lit [115,117,109]) (Grain.of (Grain.win [(T-1,v)] (T-T) T))).1)] else []) else [])++winC (totN (T-1) (s+1) r) ⟨2,0,T,lit [115,117,109],[mtA],[]⟩ T:=rfl
  rw [e,win_nota h r (s+1) (by omega) (by omega),if_pos (by rw [says_a (by omega)];simp;omega),one_win h,one_sum,if_pos rfl]
  rfl
theorem win_nota0 {T:Int} (h:1≤T) (v:Int) (r:List Int) (h8:r.length≤7):winC (totN (T-1) 0 (v::r)) ⟨2,0,T,lit [115,117,109],[mtA],[]⟩ T=totC 1 r:=by
 have e:winC (totN (T-1) 0 (v::r)) ⟨2,0,T,lit [115,117,109],[mtA],[]⟩ T=(if says (serH 0) [mtA]=true then (if (valP (lit [115,117,109]) (Grain.of (Grain.win [(T-1,v)] (T-T) T))).2=true then [(serH 0,(valP (lit [115,117,109]) (Grain.of (Grain.win [(T-1,v)] (T-T) T))).1)] else []) else [])++winC (totN (T-1) 1 r) ⟨2,0,T,lit [115,117,109],[mtA],[]⟩ T:=rfl
 rw [e,if_neg (by rw [says_a (by omega)];simp),List.nil_append]
 exact win_nota h r 1 (by omega) (by omega)
theorem only_none (s:Nat):only (serH s) []=[]:=by simp [only,serH,has]
theorem only_host (s:Nat):only (serH s) [hostB]=serH s:=by simp [only,serH,has]
theorem all_one {w:ByteArray} (hw:w=lit [109,97,120]∨w=lit [115,117,109]):∀ (l:List Int) (s:Nat) (acc K:Int),(∀ v∈l,-1000≤v∧v≤1000)→-K≤acc→acc≤K→0≤K→K+1000*l.length≤1000000→allA w [] [([],acc)] (totC s l)=some [([],l.foldl (tog w) acc)]
 | [],s,acc,K,_,_,_,_,_=>rfl
 | v::r,s,acc,K,hv,h1,h2,h0,h3=>by
  have hvv:=hv v (List.mem_cons_self ..)
  simp only [List.length_cons] at h3
  have ho:one1 w v=v:=by
   unfold one1
   rw [if_neg]
   rcases hw with e | e <;> (rw [e];decide)
  have htb : -(K+1000)≤tog w acc v∧tog w acc v≤K+1000:=by
   rcases hw with e | e
   ·have:tog w acc v=max acc v:=by rw [e];rfl
    omega
   ·have:tog w acc v=acc+v:=by rw [e];rfl
    omega
  have hb:big (tog w acc v)=false:=by
   unfold big MC
   simp
   omega
  have hp:putA w (only (serH s) []) (one1 w v) [([],acc)]=some [([],tog w acc v)]:=by
   rw [only_none,ho,putA]
   have hc:cmpS ([]:Lb) []=0:=cmpS_self []
   simp [hc,hb]
  rw [totC,allA,hp]
  have:=all_one hw r (s+1) (tog w acc v) (K+1000) (fun x hx=>hv x (List.mem_cons_of_mem _ hx)) (by omega) (by omega) (by omega) (by push_cast at h3 ⊢;omega)
  simpa using this
theorem all_first {w:ByteArray} (hw:w=lit [109,97,120]∨w=lit [115,117,109]) {v:Int} {r:List Int} (hv:∀ x∈v::r,-1000≤x∧x≤1000) (h8:r.length≤7):allA w [] [] (totC 0 (v::r))=some [([],r.foldl (tog w) v)]:=by
 have hvv:=hv v (List.mem_cons_self ..)
 have ho:one1 w v=v:=by
  unfold one1
  rw [if_neg]
  rcases hw with e | e <;> (rw [e];decide)
 rw [totC,allA,only_none,ho,putA]
 exact all_one hw r 1 v 1000 (fun x hx=>hv x (List.mem_cons_of_mem _ hx)) (by omega) (by omega) (by omega) (by omega)
theorem putA_end {w:ByteArray} {s:Lb} {v:Int}:∀ {out:List Cl},(∀ c∈out,cmpS c.1 s<0)→putA w s v out=some (out++[(s,v)])
 | [],_=>rfl
 | c::r,h=>by
  rw [putA,if_pos (h c (List.mem_cons_self ..)),putA_end (fun x hx=>h x (List.mem_cons_of_mem _ hx))]
  rfl
theorem all_count:∀ (l:List Int) (s:Nat) (out:List Cl),s+l.length≤8→(∀ c∈out,∃ i,i<s∧c.1=serH i)→∃ o,allA (lit [99,111,117,110,116]) [hostB] out (totC s l)=some o∧o.length=out.length+l.length
 | [],s,out,_,_=>⟨out,rfl,rfl⟩
 | v::r,s,out,h8,h=>by
  simp only [List.length_cons] at h8
  have hp:putA (lit [99,111,117,110,116]) (only (serH s) [hostB]) (one1 (lit [99,111,117,110,116]) v) out=some (out++[(serH s,1)]):=by
   rw [only_host]
   exact putA_end (fun c hc=>by
    obtain ⟨i,hi,e⟩:=h c hc
    rw [e];exact serH_lt (by omega) hi)
  obtain ⟨o,h1,h2⟩:=all_count r (s+1) (out++[(serH s,1)]) (by omega) (fun c hc=>by
   rcases List.mem_append.1 hc with e | e
   ·obtain ⟨i,hi,e2⟩:=h c e
    exact ⟨i,by omega,e2⟩
   ·simp at e
    exact ⟨s,by omega,by rw [e]⟩)
  refine ⟨o,?_,by rw [h2];simp;omega⟩
  rw [totC,allA,hp]
  exact h1
open Go.RowKit Go.GrainU
def eLast (T:Int):Ex:=.mk ⟨2,0,T,lit [108,97,115,116],[mtH],[]⟩ []
def eNot (T:Int):Ex:=.mk ⟨2,0,T,lit [115,117,109],[mtA],[]⟩ []
def eSum (T:Int):Ex:=.mk ⟨3,0,0,lit [115,117,109],[],[]⟩ [eLast T]
def eMax (T:Int):Ex:=.mk ⟨3,0,0,lit [109,97,120],[],[]⟩ [eLast T]
def eOne:Ex:=.mk ⟨1,1,0,lit [],[],[]⟩ []
def eTimes (T:Int):Ex:=.mk ⟨4,0,0,lit [42],[],[]⟩ [eMax T,eOne]
def eCount (T:Int):Ex:=.mk ⟨3,0,0,lit [99,111,117,110,116],[],[hostB]⟩ [eNot T]
theorem last_bad {T:Int} (t1:1≤T) (t2:T≤1000):winBad ⟨2,0,T,lit [108,97,115,116],[mtH],[]⟩=0:=by
 unfold winBad
 rw [if_neg (by rw [show has words8 (lit [108,97,115,116])=true from by kernel_rfl];decide),if_neg (by simp),if_pos (show msBad [mtH]=0 from by kernel_rfl),if_neg (by simp only;omega)]
theorem not_bad {T:Int} (t1:1≤T) (t2:T≤1000):winBad ⟨2,0,T,lit [115,117,109],[mtA],[]⟩=0:=by
 unfold winBad
 rw [if_neg (by rw [show has words8 (lit [115,117,109])=true from by kernel_rfl];decide),if_neg (by simp),if_pos (show msBad [mtA]=0 from by kernel_rfl),if_neg (by simp only;omega)]
theorem wr_leaf {h:Hd} (hb:winBad h=0) (hk:h.kind=2) {d n:Int} (h1:¬ (100<n+1∨20<d)):wr (.mk h []) d n=(0,n+1):=by
 rw [wr,if_neg h1,if_pos (by unfold alone;rw [if_neg (by omega),if_pos hk,if_pos (show ([]:List Ex).length=0 from rfl),hb]),wrL]
theorem wr_last {T:Int} (t1:1≤T) (t2:T≤1000) {d n:Int} (h1:¬ (100<n+1∨20<d)):wr (eLast T) d n=(0,n+1):=wr_leaf (last_bad t1 t2) rfl h1
theorem wr_not {T:Int} (t1:1≤T) (t2:T≤1000) {d n:Int} (h1:¬ (100<n+1∨20<d)):wr (eNot T) d n=(0,n+1):=wr_leaf (not_bad t1 t2) rfl h1
theorem wr_sum {T:Int} (t1:1≤T) (t2:T≤1000):wr (eSum T) 1 0=(0,2):=by
 unfold eSum
 rw [wr,if_neg (by omega),if_pos (by kernel_rfl),wrL,wr_last t1 t2 (by omega),if_pos rfl,wrL]
 rfl
theorem wr_count {T:Int} (t1:1≤T) (t2:T≤1000):wr (eCount T) 1 0=(0,2):=by
 unfold eCount
 rw [wr,if_neg (by omega),if_pos (by kernel_rfl),wrL,wr_not t1 t2 (by omega),if_pos rfl,wrL]
 rfl
theorem wr_max {T:Int} (t1:1≤T) (t2:T≤1000):wr (eMax T) 2 1=(0,3):=by
 unfold eMax
 rw [wr,if_neg (by omega),if_pos (by kernel_rfl),wrL,wr_last t1 t2 (by omega),if_pos rfl,wrL]
 rfl
theorem wr_times {T:Int} (t1:1≤T) (t2:T≤1000):wr (eTimes T) 1 0=(0,4):=by
 unfold eTimes
 rw [wr,if_neg (by omega),if_pos (by kernel_rfl),wrL,show (0:Int)+1=1 from rfl,show (1:Int)+1=2 from rfl,wr_max t1 t2,if_pos rfl,wrL]
 have h:wr eOne 2 3=(0,4):=by kernel_rfl
 simp only [h,if_true,wrL]
theorem typ_sum (T:Int):typ (eSum T)=0:=by
 unfold eSum
 rw [typ,if_neg (by simp [vecL,vec,eLast]),typL,show typ (eLast T)=0 from by unfold eLast;rw [typ,if_neg (by simp),typL],if_pos rfl,typL]
theorem typ_max (T:Int):typ (eMax T)=0:=by
 unfold eMax
 rw [typ,if_neg (by simp [vecL,vec,eLast]),typL,show typ (eLast T)=0 from by unfold eLast;rw [typ,if_neg (by simp),typL],if_pos rfl,typL]
theorem typ_count (T:Int):typ (eCount T)=0:=by
 unfold eCount
 rw [typ,if_neg (by simp [vecL,vec,eNot]),typL,show typ (eNot T)=0 from by unfold eNot;rw [typ,if_neg (by simp),typL],if_pos rfl,typL]
theorem typ_times (T:Int):typ (eTimes T)=0:=by
 unfold eTimes
 rw [typ,if_neg (by simp),typL,typ_max,if_pos rfl,typL,show typ eOne=0 from by kernel_rfl,if_pos rfl,typL]
theorem chk_of {e:Ex} {T:Int} {k:Int} (hw:wr e 1 0=(0,k)) (ht:typ e=0) (t1:1≤T) (t2:T≤1000):chk e T=0:=by
 unfold chk
 rw [hw,if_pos rfl,if_pos ht,if_neg (by omega)]
theorem ev_last {T τ:Int} (t1:1≤T) (l:List Int) (h:τ=T-1):ev (totN τ 0 l) T (eLast T)=some ⟨false,totC 0 l⟩:=by
 unfold eLast
 rw [ev,if_neg (by simp),if_pos rfl,h,win_last t1]
theorem ev_all {T:Int} {w:ByteArray} {bs:List ByteArray} {k:Ex} {L:List Ln} {c o:List Cl} (hk:ev L T k=some ⟨false,c⟩) (ha:allA w bs [] c=some o):ev L T (.mk ⟨3,0,0,w,[],bs⟩ [k])=some ⟨false,o⟩:=by
 rw [ev,if_neg (by simp),if_neg (by simp),evL,hk,evL]
 simp [ha]
theorem tot_ev {T:Int} (t1:1≤T) {v:Int} {r:List Int} (hv:∀ x∈v::r,-1000≤x∧x≤1000) (h8:r.length≤7) :
  ev (totN (T-1) 0 (v::r)) T (eSum T)=some ⟨false,[([],r.foldl (· + ·) v)]⟩∧ev (totN (T-1) 0 (v::r)) T (eTimes T)=some ⟨false,[([],r.foldl max v)]⟩∧∃ o,ev (totN (T-1) 0 (v::r)) T (eCount T)=some ⟨false,o⟩∧o.length=r.length:=by
 have hl:=ev_last (τ:=T-1) t1 (v::r) rfl
 refine ⟨ev_all hl (all_first (.inr rfl) hv h8),?_,?_⟩
 ·have hm:ev (totN (T-1) 0 (v::r)) T (eMax T)=some ⟨false,[([],r.foldl max v)]⟩:=ev_all hl (all_first (.inl rfl) hv h8)
  have h1:ev (totN (T-1) 0 (v::r)) T eOne=some ⟨true,[([],1)]⟩:=by unfold eOne;rw [ev,if_pos rfl]
  unfold eTimes
  rw [ev,if_neg (by simp),if_neg (by simp),evL,hm,evL,h1,evL]
  have hb : -1000≤r.foldl max v∧r.foldl max v≤1000:=by
   have:∀ (r:List Int) (v:Int),-1000≤v→v≤1000→(∀ x∈r,-1000≤x∧x≤1000)→-1000≤r.foldl max v∧r.foldl max v≤1000:=by
    intro r
    induction r with
    | nil=>intro v a b _;exact ⟨a,b⟩
    | cons x r ih =>
     intro v a b hx
     have:=hx x (List.mem_cons_self ..)
     exact ih (max v x) (by omega) (by omega) (fun y hy=>hx y (List.mem_cons_of_mem _ hy))
   have hvv:=hv v (List.mem_cons_self ..)
   exact this r v hvv.1 hvv.2 (fun x hx=>hv x (List.mem_cons_of_mem _ hx))
  generalize r.foldl max v=m at hb
  have hw:wkd (lit [42]) m 1=some (m*1):=by
   unfold wkd
   rw [if_neg (by decide),if_neg (by decide),if_neg]
   rintro ⟨h0,h2⟩
   have h3:max (1:Int) (-1)=1:=by decide
   rw [h3] at h2
   have h4:1≤MC / max m (-m):=by
    rw [Int.le_ediv_iff_mul_le (by omega)]
    unfold MC
    omega
   omega
  have hc:cmpS ([]:Lb) []=0:=cmpS_self []
  simp [binM,fromM,binA,atM,cellOf,cl0,hw,hc]
 ·have hn:ev (totN (T-1) 0 (v::r)) T (eNot T)=some ⟨false,totC 1 r⟩:=by
   unfold eNot
   rw [ev,if_neg (by simp),if_pos rfl,win_nota0 t1 v r h8]
  obtain ⟨o,h1,h2⟩:=all_count r 1 [] (by omega) (fun c hc=>by cases hc)
  exact ⟨o,ev_all hn h1,by simpa using h2⟩
theorem prs_of {e:Ex} {s:ByteArray} (hw:(wr e 1 0).1=0) (hs:tx e=s) (hb:bare e=e) (h5:s.size≤2000):prs s.data.toList=.ok e:=by
 have h:=prs_tx hw (by rw [hs];exact h5)
 rw [hb,hs] at h
 exact h
theorem tx_last (T:Int):tx (eLast T)=ByteArray.mk #[108,97,115,116,40,123,104,111,115,116,125,91]++itoaB T++lit [93,41]:=by
 unfold eLast
 rw [tx,bodyT,if_neg (by simp),if_pos rfl]
 have e:lit [108,97,115,116]++lit [40,123]++jn ([mtH].map mtx)++lit [125,91]=ByteArray.mk #[108,97,115,116,40,123,104,111,115,116,125,91]:=by kernel_rfl
 simp only [e]
theorem tx_not (T:Int):tx (eNot T)=ByteArray.mk #[115,117,109,40,123,104,111,115,116,33,61,97,125,91]++itoaB T++lit [93,41]:=by
 unfold eNot
 rw [tx,bodyT,if_neg (by simp),if_pos rfl]
 have e:lit [115,117,109]++lit [40,123]++jn ([mtA].map mtx)++lit [125,91]=ByteArray.mk #[115,117,109,40,123,104,111,115,116,33,61,97,125,91]:=by kernel_rfl
 simp only [e]
def qSum (T:Int):ByteArray:=ByteArray.mk #[97,108,108,32,115,117,109,32,40,108,97,115,116,40,123,104,111,115,116,125,91]++itoaB T++ByteArray.mk #[93,41,41]
def qMax (T:Int):ByteArray:=ByteArray.mk #[97,108,108,32,109,97,120,32,40,108,97,115,116,40,123,104,111,115,116,125,91]++itoaB T++ByteArray.mk #[93,41,41,32,42,32,49]
def qCount (T:Int):ByteArray:=ByteArray.mk #[97,108,108,32,99,111,117,110,116,32,98,121,32,104,111,115,116,32,40,115,117,109,40,123,104,111,115,116,33,61,97,125,91]++itoaB T++ByteArray.mk #[93,41,41]
theorem app3 {a b c d e f:ByteArray} {m:ByteArray} (h1:a++b=e) (h2:c++d=f):a++(b++m++c)++d=e++m++f:=by
 rw [← h1,← h2]
 simp only [ByteArray.append_assoc]
theorem tx_sum (T:Int):tx (eSum T)=qSum T:=by
 have e:tx (eSum T)=lit [97,108,108,32]++lit [115,117,109]++byt []++lit [32,40]++tx (eLast T)++lit [41]:=by
  unfold eSum
  rw [tx,bodyT,if_neg (by simp),if_neg (by simp),if_pos rfl]
  rfl
 rw [e,tx_last]
 exact app3 (by kernel_rfl) (by kernel_rfl)
theorem tx_max (T:Int):tx (eMax T)=ByteArray.mk #[97,108,108,32,109,97,120,32,40,108,97,115,116,40,123,104,111,115,116,125,91]++itoaB T++ByteArray.mk #[93,41,41]:=by
 have e:tx (eMax T)=lit [97,108,108,32]++lit [109,97,120]++byt []++lit [32,40]++tx (eLast T)++lit [41]:=by
  unfold eMax
  rw [tx,bodyT,if_neg (by simp),if_neg (by simp),if_pos rfl]
  rfl
 rw [e,tx_last]
 exact app3 (by kernel_rfl) (by kernel_rfl)
theorem tx_count (T:Int):tx (eCount T)=qCount T:=by
 have e:tx (eCount T)=lit [97,108,108,32]++lit [99,111,117,110,116]++byt [hostB]++lit [32,40]++tx (eNot T)++lit [41]:=by
  unfold eCount
  rw [tx,bodyT,if_neg (by simp),if_neg (by simp),if_pos rfl]
  rfl
 rw [e,tx_not]
 exact app3 (by kernel_rfl) (by kernel_rfl)
theorem tx_times (T:Int):tx (eTimes T)=qMax T:=by
 have e:tx (eTimes T)=tx (eMax T)++lit [32]++lit [42]++lit [32]++tx eOne:=by
  unfold eTimes
  rw [tx,bodyT,if_neg (by simp),if_neg (by simp),if_neg (by simp)]
  rfl
 have e1:tx eOne=lit [49]:=by kernel_rfl
 rw [e,tx_max,e1]
 unfold qMax
 have e2:ByteArray.mk #[93,41,41]++lit [32]++lit [42]++lit [32]++lit [49]=ByteArray.mk #[93,41,41,32,42,32,49]:=by kernel_rfl
 rw [← e2]
 simp only [ByteArray.append_assoc]
theorem tx_small {e:Ex} (hw:(wr e 1 0).1=0) (hc:cnt e≤4):(tx e).size≤1200:=by
 have:=tx_size e (wr_ok e 1 0 (by omega) hw).1
 have h2:300*cnt e≤300*4:=Nat.mul_le_mul_left _ hc
 omega
theorem tot_texts {T:Int} (t1:1≤T) (t2:T≤1000):(prs (qSum T).data.toList=.ok (eSum T)∧prs (qMax T).data.toList=.ok (eTimes T)∧prs (qCount T).data.toList=.ok (eCount T))∧(qSum T).size≤1200∧(qMax T).size≤1200∧(qCount T).size≤1200:=by
 have h1:(wr (eSum T) 1 0).1=0:=by rw [wr_sum t1 t2]
 have h2:(wr (eTimes T) 1 0).1=0:=by rw [wr_times t1 t2]
 have h3:(wr (eCount T) 1 0).1=0:=by rw [wr_count t1 t2]
 have s1:=tx_small h1 (by show 2≤4;omega)
 have s2:=tx_small h2 (by show 4≤4;omega)
 have s3:=tx_small h3 (by show 2≤4;omega)
 rw [tx_sum] at s1
 rw [tx_times] at s2
 rw [tx_count] at s3
 exact ⟨⟨prs_of h1 (tx_sum T) rfl (by omega),prs_of h2 (tx_times T) rfl (by omega),prs_of h3 (tx_count T) rfl (by omega)⟩,s1,s2,s3⟩
theorem tot_pure {T:Int} (t1:1≤T) (t2:T≤1000) {v:Int} {r:List Int} (hv:∀ x∈v::r,-1000≤x∧x≤1000) (h8:r.length≤7) :
  ((lastA (totD (T-1) 0 (v::r)++[dAsk (qSum T) T])).err=0∧(lastA (totD (T-1) 0 (v::r)++[dAsk (qSum T) T])).cs=[([],r.foldl (· + ·) v)]) ∧
  ((lastA (totD (T-1) 0 (v::r)++[dAsk (qMax T) T])).err=0∧(lastA (totD (T-1) 0 (v::r)++[dAsk (qMax T) T])).cs=[([],r.foldl max v)]) ∧
  ((lastA (totD (T-1) 0 (v::r)++[dAsk (qCount T) T])).err=0∧(lastA (totD (T-1) 0 (v::r)++[dAsk (qCount T) T])).cs.length=r.length):=by
 have hb:=tot_base (τ:=T-1) (by omega) (by omega) (v::r) (by simp;omega) hv
 obtain ⟨⟨p1,p2,p3⟩,_⟩:=tot_texts t1 t2
 obtain ⟨e1,e2,o,e3,hl⟩:=tot_ev t1 hv h8
 have key:∀ (s:ByteArray) (e:Ex) (m:Mn),prs s.data.toList=.ok e→chk e T=0→ev (totN (T-1) 0 (v::r)) T e=some m→(lastA (totD (T-1) 0 (v::r)++[dAsk s T])).err=0∧(lastA (totD (T-1) 0 (v::r)++[dAsk s T])).cs=m.cs:=by
  intro s e m hp hc he
  rw [lastA_snoc (by rw [totD_len];simp;omega)]
  have e2:∀ c:Bs,(doB c (dAsk s T)).2=askB c s T:=fun c=>rfl
  rw [e2]
  unfold askB
  rw [hp]
  have hq:=askE_whole hb.i hb.few hb.w T e
  rw [if_pos hc,hb.ln,he] at hq
  simp only
  unfold anE
  rw [hq]
  exact ⟨rfl,rfl⟩
 refine ⟨key _ _ _ p1 (chk_of (wr_sum t1 t2) (typ_sum T) t1 t2) e1,key _ _ _ p2 (chk_of (wr_times t1 t2) (typ_times T) t1 t2) e2,?_⟩
 have h3:=key _ _ _ p3 (chk_of (wr_count t1 t2) (typ_count T) t1 t2) e3
 exact ⟨h3.1,by rw [h3.2];exact hl⟩
end Go.Proofs.YtoldmigappbjcaaGreatDoor
