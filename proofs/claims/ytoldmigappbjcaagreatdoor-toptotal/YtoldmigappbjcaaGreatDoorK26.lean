import Derived.Deep.Onto
import Derived.Deep.RegionHeld3
import Derived.Laws.Small
import Derived.Test.YtoldmigappbjcaaGreatDoorK01
import Derived.Test.YtoldmigappbjcaaGreatDoorK04
import Derived.Test.YtoldmigappbjcaaGreatDoorK09
import Derived.Test.YtoldmigappbjcaaGreatDoorK17
import Derived.Test.YtoldmigappbjcaaGreatDoorK24
import Derived.Test.YtoldmigappbjcaaGreatDoorK25
namespace Go.GrainU
open Go.RowKit
structure CT where
 ser:Lb
 v:Int
 sa:Option Addr
 sc:Nat
def CT.cl (c:CT):Cl:=(c.ser,c.v)
def ct0:CT:=⟨[],0,none,0⟩
def ct (l:List CT) (k:Nat):CT:=l.getD k ct0
def ccells:List CT→List Value
 | []=>[]
 | c::r=>.slice c.sa c.ser.length c.sc::.int .i64 c.v::ccells r
theorem ccells_length (l:List CT):(ccells l).length=l.length*2:=by
 induction l with
 | nil=>rfl
 | cons s r ih=>simp only [ccells,List.length_cons,ih];omega
theorem ccells_append (a b:List CT):ccells (a++b)=ccells a++ccells b:=by
 induction a with
 | nil=>rfl
 | cons x r ih=>simp [ccells,ih]
theorem ccells_at (l:List CT):∀ k,k<l.length→(ccells l)[k*2]?=some (.slice (ct l k).sa (ct l k).ser.length (ct l k).sc)∧(ccells l)[k*2+1]?=some (.int .i64 (ct l k).v):=by
 induction l with
 | nil=>intro k hk;simp at hk
 | cons s r ih =>
  intro k hk
  match k with
  | 0=>simp [ccells,ct]
  | k+1 =>
   have:=ih k (by simpa using hk)
   rw [show (k+1)*2=k*2+1+1 from by omega]
   simpa [ccells,ct] using this
theorem seg_cell {w:World} {ao:Option Addr} {l:List CT} (h:Seg w ao (ccells l)) {k:Nat} (hk:k<l.length) :
  ∃ b off,ao=some ⟨b,off,none⟩∧b<w.heap.size∧∀ j,j<l.length→w.cell? ⟨b,off+j*2,none⟩=some (.slice (ct l j).sa (ct l j).ser.length (ct l j).sc)∧w.cell? ⟨b,off+j*2+1,none⟩=some (.int .i64 (ct l j).v):=by
 have hs:=ccells_length l
 rcases h with h | ⟨b,off,rfl,h⟩
 ·rw [h] at hs;simp at hs;omega
 ·have hc:∀ j,j<l.length→w.cell? ⟨b,off+j*2,none⟩=some (.slice (ct l j).sa (ct l j).ser.length (ct l j).sc)∧w.cell? ⟨b,off+j*2+1,none⟩=some (.int .i64 (ct l j).v):=fun j hj=>by
   have:=ccells_at l j hj
   exact ⟨(h (j*2) (by omega)).trans this.1,by rw [Nat.add_assoc];exact (h (j*2+1) (by omega)).trans this.2⟩
  exact ⟨b,off,rfl,World.block_lt_of_cell? w ⟨b,off+k*2,none⟩ (hc k hk).1,hc⟩
theorem ct_mem {l:List CT} {k:Nat} (hk:k<l.length):ct l k∈l:=by
 simp only [ct,List.getD,List.getElem?_eq_getElem hk,Option.getD_some];exact List.getElem_mem hk
def cls (l:List CT):List Cl:=l.map CT.cl
theorem cls_len (l:List CT):(cls l).length=l.length:=by simp [cls]
def Typ (w:World) (T:Nat) (ao:Option Addr):Prop:=∃ b off arr fr,ao=some ⟨b,off,none⟩∧w.heap[b]?=some (.cells arr T fr)
theorem Typ.below {w w':World} {T:Nat} {ao:Option Addr} (h:Typ w T ao) (hb:Below w.heap.size w w'):Typ w' T ao:=by
 obtain ⟨b,off,arr,fr,e,hh⟩:=h
 exact ⟨b,off,arr,fr,e,below_block hb hh⟩
theorem Typ.set {w:World} {T:Nat} {ao:Option Addr} (h:Typ w T ao) (p:Addr) (v:Value):Typ (w.setCell p v) T ao:=by
 obtain ⟨b,off,arr,fr,e,hh⟩:=h
 by_cases hp:p.block=b
 ·subst hp
  have:∃ arr',(w.setCell p v).heap[p.block]?=some (.cells arr' T fr):=by simp [World.setCell,Array.getElem?_modify,hh]
  obtain ⟨arr',h'⟩:=this
  exact ⟨p.block,off,arr',fr,e,h'⟩
 ·exact ⟨b,off,arr,fr,e,by rw [Below.heap_setCell w p v b (fun h=>hp h.symm)];exact hh⟩
theorem own_typ {w:World} {base T size N n d:Nat} {ao:Option Addr} {xs:List Value} (h:w.ownsRow base T size (.slice ao N d) n xs):xs=[]∨Typ w T ao:=by
 rcases h.2 with ⟨_,h2⟩ | ⟨g,cap,cur,hv,_,hh,_⟩
 ·left
  have h1:=h.1
  rw [h2] at h1
  simpa using h1
 ·right
  injection hv with e1 e2 e3
  exact ⟨g,0,cur,(0,0),e1,hh⟩
structure CsIn (w:World) (co:Option Addr) (l:List CT):Prop where
 seg:Seg w co (ccells l)
 ser:∀ c∈l,Seg w c.sa (lcells c.ser)
 ty:ccells l=[]∨Typ w 79 co
 tl:∀ c∈l,lcells c.ser=[]∨Typ w 88 c.sa
theorem CsIn.below {w w':World} {co:Option Addr} {l:List CT} (h:CsIn w co l) (hb:Below w.heap.size w w'):CsIn w' co l:=⟨h.seg.below hb,fun c hc=>(h.ser c hc).below hb,h.ty.imp id (·.below hb),fun c hc=>(h.tl c hc).imp id (·.below hb)⟩
def SegL (w:World) (ao:Option Addr) (l:Lb):Prop:=Seg w ao (lcells l)∧(lcells l=[]∨Typ w 88 ao)
theorem SegL.below {w w':World} {ao:Option Addr} {l:Lb} (h:SegL w ao l) (hb:Below w.heap.size w w'):SegL w' ao l:=⟨h.1.below hb,h.2.imp id (·.below hb)⟩
theorem drop_ct {l:List CT} {k:Nat} (h:k<l.length):l.drop k=ct l k::l.drop (k+1):=by
 rw [List.drop_eq_getElem_cons h]
 simp only [ct,List.getD,List.getElem?_eq_getElem h,Option.getD_some]
def SegN (w:World) (r:Option Nat) (ao:Option Addr) (xs:List Value):Prop :=
 xs=[]∨∃ b off,ao=some ⟨b,off,none⟩∧r≠some b∧(∃ arr fr,w.heap[b]?=some (.cells arr 88 fr))∧∀ j,j<xs.length→w.cell? ⟨b,off+j,none⟩=xs[j]?
theorem SegN.seg {w:World} {r:Option Nat} {ao:Option Addr} {xs:List Value} (h:SegN w r ao xs):Seg w ao xs:=by
 rcases h with h | ⟨b,off,e,_,_,hc⟩
 ·exact .inl h
 ·exact .inr ⟨b,off,e,hc⟩
theorem SegN.typ {w:World} {r:Option Nat} {ao:Option Addr} {xs:List Value} (h:SegN w r ao xs):xs=[]∨Typ w 88 ao:=by
 rcases h with h | ⟨b,off,e,_,⟨arr,fr,hh⟩,hc⟩
 ·exact .inl h
 ·exact .inr ⟨b,off,arr,fr,e,hh⟩
theorem cell_of_block {w w':World} {b o:Nat} (h:w'.heap[b]?=w.heap[b]?):w'.cell? ⟨b,o,none⟩=w.cell? ⟨b,o,none⟩:=by simp [World.cell?,h]
theorem SegN.grown {w w':World} {r r':Option Nat} {ao:Option Addr} {xs:List Value} (h:SegN w r ao xs) (hg:w.grownBy w' r) (hr:∀ g,r'=some g→r=some g∨w.heap.size≤g):SegN w' r' ao xs:=by
 rcases h with h | ⟨b,off,rfl,hne,⟨arr,fr,hh⟩,hc⟩
 ·exact .inl h
 ·have hl:=lt_of_block hh
  have hb:=hg.block b hl (fun e=>hne e.symm)
  refine .inr ⟨b,off,rfl,fun e=>?_,⟨arr,fr,by rw [hb];exact hh⟩,fun j hj=>?_⟩
  ·rcases hr b e with e1 | e1
   ·exact hne e1
   ·omega
  ·rw [cell_of_block hb];exact hc j hj
theorem SegN.below {w w':World} {r:Option Nat} {ao:Option Addr} {xs:List Value} (h:SegN w r ao xs) (hb:Below w.heap.size w w'):SegN w' r ao xs:=by
 rcases h with h | ⟨b,off,rfl,hne,⟨arr,fr,hh⟩,hc⟩
 ·exact .inl h
 ·exact .inr ⟨b,off,rfl,hne,⟨arr,fr,below_block hb hh⟩,fun j hj=>(hb.cell (p:=⟨b,off+j,none⟩) (lt_of_block hh)).trans (hc j hj)⟩
theorem own_base {w:World} {base e size n:Nat} {v:Value} {xs:List Value} (h:w.ownsRow base e size v n xs):∀ g,v.ownBlock=some g→base≤g∧g<w.heap.size:=fun g hg=>by
 have:=h.lt g hg
 exact this
theorem segN_own {w:World} {base size N d:Nat} {ao:Option Addr} {xs:List Value} (h:w.ownsRow base 88 size (.slice ao N d) N xs) {r:Option Nat} (hr:∀ g,r=some g→g<base):SegN w r ao xs:=by
 by_cases hx:xs=[]
 ·exact .inl hx
 ·rcases own_open h with ⟨ao',c,hv,hs,_⟩
  simp only [Value.slice.injEq] at hv
  obtain ⟨rfl,-,rfl⟩:=hv
  rcases hs with hs | ⟨b,off,rfl,hc⟩
  ·exact .inl hs
  ·rcases h.2 with ⟨h0,_⟩ | ⟨g',cap',cur,h0,hb,hh,_⟩
   ·cases h0
   ·injection h0 with e1 e2 e3
    injection e1 with e1
    injection e1 with e1 e4
    subst e1
    refine .inr ⟨b,off,rfl,fun e=>?_,⟨cur,(0,0),hh⟩,hc⟩
    have h1:=hr b e
    omega
open Go.RowKit
structure Bel (r:Option Nat) (B:Nat) (w w':World):Prop where
 os:w'.os=w.os
 tape:w'.tape=w.tape
 output:w'.output=w.output
 size:w.heap.size≤w'.heap.size
 block:∀ k,k<B→r≠some k→w'.heap[k]?=w.heap[k]?
theorem Bel.of {B:Nat} {w w':World} (h:Below B w w') (r:Option Nat):Bel r B w w':=⟨h.os,h.tape,h.output,h.size,fun k hk _=>h.block k hk⟩
theorem Bel.refl (r:Option Nat) (B:Nat) (w:World):Bel r B w w:=Bel.of (Below.refl _ _) r
theorem Bel.trans {r:Option Nat} {B:Nat} {a b c:World} (h:Bel r B a b) (k:Bel r B b c):Bel r B a c :=
 ⟨k.os.trans h.os,k.tape.trans h.tape,k.output.trans h.output,Nat.le_trans h.size k.size,fun i hi hr=>(k.block i hi hr).trans (h.block i hi hr)⟩
theorem Bel.mono {r:Option Nat} {B B':Nat} {w w':World} (h:Bel r B w w') (hB:B'≤B):Bel r B' w w':=⟨h.os,h.tape,h.output,h.size,fun k hk=>h.block k (Nat.lt_of_lt_of_le hk hB)⟩
theorem Bel.alloc {r:Option Nat} {B:Nat} {a w:World} (h:Bel r B a w) (hB:B≤w.heap.size) (o:Obj):Bel r B a (w.alloc o):=h.trans (Bel.of ((Below.refl _ _).alloc hB o) r)
theorem Bel.setCell {r:Option Nat} {B:Nat} {a w:World} (h:Bel r B a w) {p:Addr} (hp:B≤p.block) (u:Value):Bel r B a (w.setCell p u):=h.trans (Bel.of ((Below.refl _ _).setCell hp u) r)
theorem bel_step {r:Option Nat} {W V w':World} (hb:Bel r V.heap.size V w') (h:Bel r W.heap.size W V):Bel r W.heap.size W w':=h.trans (hb.mono h.size)
theorem bel_below {r:Option Nat} {W V w':World} (hb:Below V.heap.size V w') (h:Bel r W.heap.size W V):Bel r W.heap.size W w':=bel_step (Bel.of hb r) h
theorem bel_block {r:Option Nat} {N:Nat} {w w':World} (hb:Bel r w.heap.size w w') (hr:∀ C,r=some C→C<N) {k:Nat} (hk:N≤k) {o:Obj} (h:w.heap[k]?=some o):w'.heap[k]?=some o:=by
 have hl:k<w.heap.size:=by
  rcases Nat.lt_or_ge k w.heap.size with h1 | h1
  ·exact h1
  ·rw [Array.getElem?_eq_none h1] at h;cases h
 rw [hb.block k hl (fun e=>by have:=hr k e;omega)];exact h
def isInt:Value→Prop
 | .int _ _=>True
 | _=>False
def Solo (r:Option Nat) (w:World):Prop:=∀ C,r=some C→∀ o v,w.cell? ⟨C,o,none⟩=some v→isInt v
theorem Solo.of {C t:Nat} {w:World} {c:Int} {f:Nat×Nat} (h:w.heap[C]?=some (.cells #[.int .i64 c] t f)):Solo (some C) w:=by
 intro D e o v hv
 injection e with e
 subst e
 simp only [World.cell?,h] at hv
 match o,hv with
 | 0,hv=>simp at hv;subst hv;trivial
 | o+1,hv=>simp at hv
def Wordy (xs:List Value):Prop:=xs=[]∨∃ (j:Nat) (x:Value),xs[j]?=some x∧¬ isInt x
theorem seg_offr {w:World} {r:Option Nat} {b off:Nat} {xs:List Value} (hc:∀ j,j<xs.length→w.cell? ⟨b,off+j,none⟩=xs[j]?) (hx:Wordy xs) (hne:xs≠[]) (hs:Solo r w):r≠some b:=by
 intro e
 rcases hx with h | ⟨j,x,hj,hn⟩
 ·exact hne h
 ·have hl:j<xs.length:=by
   rcases Nat.lt_or_ge j xs.length with h1 | h1
   ·exact h1
   ·rw [List.getElem?_eq_none h1] at hj;cases hj
  exact hn (hs b e _ x ((hc j hl).trans hj))
theorem Bel.cell {r:Option Nat} {B:Nat} {w w':World} (h:Bel r B w w') {b o:Nat} (hb:b<B) (hr:r≠some b):w'.cell? ⟨b,o,none⟩=w.cell? ⟨b,o,none⟩:=cell_of_block (h.block b hb hr)
theorem Seg.bel {w w':World} {r:Option Nat} {ao:Option Addr} {xs:List Value} (h:Seg w ao xs) (hx:Wordy xs) (hs:Solo r w) (hb:Bel r w.heap.size w w'):Seg w' ao xs:=by
 rcases h with h | ⟨b,off,rfl,h⟩
 ·exact .inl h
 ·by_cases hn:xs=[]
  ·exact .inl hn
  ·have hl:=Seg.block_lt h hn
   have hr:=seg_offr h hx hn hs
   exact .inr ⟨b,off,rfl,fun j hj=>(hb.cell hl hr).trans (h j hj)⟩
theorem wordy_l (l:List (ByteArray×ByteArray)):Wordy (lcells l):=by
 cases l with
 | nil=>exact .inl rfl
 | cons a r=>exact .inr ⟨0,.string a.1,rfl,fun h=>h⟩
theorem wordy_c (l:List CT):Wordy (ccells l):=by
 cases l with
 | nil=>exact .inl rfl
 | cons a r=>exact .inr ⟨0,.slice a.sa a.ser.length a.sc,rfl,fun h=>h⟩
theorem wordy_m (l:List Mt):Wordy (mcells l):=by
 cases l with
 | nil=>exact .inl rfl
 | cons a r=>exact .inr ⟨1,.string a.key,rfl,fun h=>h⟩
theorem wordy_w (l:List ByteArray):Wordy (wcells l):=by
 cases l with
 | nil=>exact .inl rfl
 | cons a r=>exact .inr ⟨0,.string a,rfl,fun h=>h⟩
theorem wordy_e (l:List ET):Wordy (ecells l):=by
 cases l with
 | nil=>exact .inl rfl
 | cons a r=>exact .inr ⟨3,.string a.hd.word,rfl,fun h=>h⟩
theorem typ_bel {w w':World} {r:Option Nat} {T:Nat} {ao:Option Addr} {xs:List Value} (h:Seg w ao xs) (ht:xs=[]∨Typ w T ao) (hx:Wordy xs) (hs:Solo r w) (hb:Bel r w.heap.size w w'):xs=[]∨Typ w' T ao:=by
 rcases ht with ht | ⟨b,off,arr,fr,e,hh⟩
 ·exact .inl ht
 ·rcases h with h | ⟨b',off',e',hc⟩
  ·exact .inl h
  ·by_cases hn:xs=[]
   ·exact .inl hn
   ·rw [e] at e'
    injection e' with e'
    injection e' with e1 e2 _
    subst e1
    have hr:=seg_offr hc hx hn hs
    exact .inr ⟨b,off,arr,fr,e,by rw [hb.block b (lt_of_block hh) hr];exact hh⟩
theorem CsIn.bel {w w':World} {r:Option Nat} {co:Option Addr} {l:List CT} (h:CsIn w co l) (hs:Solo r w) (hb:Bel r w.heap.size w w'):CsIn w' co l :=
 ⟨h.seg.bel (wordy_c _) hs hb,fun c hc=>(h.ser c hc).bel (wordy_l _) hs hb,typ_bel h.seg h.ty (wordy_c _) hs hb,fun c hc=>typ_bel (h.ser c hc) (h.tl c hc) (wordy_l _) hs hb⟩
theorem ET.In.bel {w w':World} {r:Option Nat} (hs:Solo r w) (hb:Bel r w.heap.size w w'):∀ t:ET,t.In w→t.In w':=by
 refine ET.ind ?_
 intro h s kids ih hin
 simp only [ET.In] at hin ⊢
 obtain ⟨⟨a,b,c⟩,d,e⟩:=hin
 exact ⟨⟨a.bel (wordy_m _) hs hb,b.bel (wordy_w _) hs hb,c.bel (wordy_e _) hs hb⟩,d,inL_of fun k hk=>ih k hk (inL_mem e k hk)⟩
theorem SegN.bel {w w':World} {r q:Option Nat} {ao:Option Addr} {xs:List Value} (h:SegN w q ao xs) (hx:Wordy xs) (hs:Solo r w) (hb:Bel r w.heap.size w w'):SegN w' q ao xs:=by
 rcases h with h | ⟨b,off,rfl,hne,⟨arr,fr,hh⟩,hc⟩
 ·exact .inl h
 ·by_cases hn:xs=[]
  ·exact .inl hn
  ·have hr:=seg_offr hc hx hn hs
   have hl:=lt_of_block hh
   exact .inr ⟨b,off,rfl,hne,⟨arr,fr,by rw [hb.block b hl hr];exact hh⟩,fun j hj=>(hb.cell hl hr).trans (hc j hj)⟩
theorem own_bel {w w':World} {r:Option Nat} {base e size n:Nat} {v:Value} {xs:List Value} (h:w.ownsRow base e size v n xs) (hr:∀ C,r=some C→C<base) (hb:Bel r w.heap.size w w'):w'.ownsRow base e size v n xs:=by
 refine h.kept (row:=r) ⟨hb.os,hb.tape,hb.output,hb.size,fun k hk hn=>hb.block k hk (fun e=>hn e.symm)⟩ ?_
 cases hv:v.ownBlock with
 | none=>exact .inl rfl
 | some x =>
  right
  intro e
  have h1:=own_base h x hv
  have h2:=hr x (by first | exact e | exact e.symm)
  omega
structure ST where
 ser:Lb
 sa:Option Addr
 sc:Nat
def hcells:List ST→List Value
 | []=>[]
 | x::r=>.slice x.sa x.ser.length x.sc::hcells r
theorem hcells_length (l:List ST):(hcells l).length=l.length:=by
 induction l with
 | nil=>rfl
 | cons a r ih=>simp [hcells,ih]
theorem wordy_h (l:List ST):Wordy (hcells l):=by
 cases l with
 | nil=>exact .inl rfl
 | cons a r=>exact .inr ⟨0,.slice a.sa a.ser.length a.sc,rfl,fun h=>h⟩
def st (l:List ST) (k:Nat):ST:=l.getD k ⟨[],none,0⟩
theorem hcells_at:∀ (l:List ST) (k:Nat),k<l.length→(hcells l)[k]?=some (.slice (st l k).sa (st l k).ser.length (st l k).sc)
 | [],k,h=>by simp at h
 | x::r,0,_=>rfl
 | x::r,k+1,h=>by
  have:=hcells_at r k (by simpa using h)
  simpa [hcells,st] using this
theorem st_mem {l:List ST} {k:Nat} (hk:k<l.length):st l k∈l:=by
 simp only [st,List.getD,List.getElem?_eq_getElem hk,Option.getD_some];exact List.getElem_mem hk
theorem seg_series {w:World} {ao:Option Addr} {l:List ST} {k:Nat} (h:Seg w ao (hcells l)) (hk:k<l.length) :
  ∃ b off,ao=some ⟨b,off,none⟩∧b<w.heap.size∧∀ j,j<l.length→w.cell? ⟨b,off+j,none⟩=some (.slice (st l j).sa (st l j).ser.length (st l j).sc):=by
 have hs:=hcells_length l
 rcases h with h | ⟨b,off,rfl,h⟩
 ·rw [h] at hs;simp at hs;omega
 ·have hc:∀ j,j<l.length→w.cell? ⟨b,off+j,none⟩=some (.slice (st l j).sa (st l j).ser.length (st l j).sc):=fun j hj=>(h j (by omega)).trans (hcells_at l j hj)
  exact ⟨b,off,rfl,World.block_lt_of_cell? w ⟨b,off+k,none⟩ (hc k hk),hc⟩
structure SsIn (w:World) (ao:Option Addr) (l:List ST):Prop where
 seg:Seg w ao (hcells l)
 ser:∀ x∈l,Seg w x.sa (lcells x.ser)
 nil:∀ x∈l,x.sa=none→x.ser.length=0∧x.sc=0
 len:∀ x∈l,x.ser.length≤4
theorem SsIn.bel {w w':World} {r:Option Nat} {ao:Option Addr} {l:List ST} (h:SsIn w ao l) (hs:Solo r w) (hb:Bel r w.heap.size w w'):SsIn w' ao l :=
 ⟨h.seg.bel (wordy_h _) hs hb,fun x hx=>(h.ser x hx).bel (wordy_l _) hs hb,h.nil,h.len⟩
mutual
def evG (f:Hd→Except Int (List Cl)):Ex→Except Int Mn
 | .mk h kids =>
  if h.kind=1 then .ok ⟨true,[([],h.n)]⟩
  else if h.kind=2 then (match f h with | .error x=>.error x | .ok c=>.ok ⟨false,c⟩)
  else
   match evGL f kids with
   | .error x=>.error x
   | .ok ms=>if h.kind=3 then (match allA h.word h.bs [] (ms.getD 0 ⟨false,[]⟩).cs with | none=>.error 3 | some c=>.ok ⟨false,c⟩) else (match binM (ms.getD 0 ⟨false,[]⟩) (ms.getD 1 ⟨false,[]⟩) h.word with | none=>.error 3 | some m=>.ok m)
def evGL (f:Hd→Except Int (List Cl)):List Ex→Except Int (List Mn)
 | []=>.ok []
 | k::r =>
  match evG f k with
  | .error x=>.error x
  | .ok m =>
   match evGL f r with
   | .error x=>.error x
   | .ok ms=>.ok (m::ms)
end
mutual
/-- what its windows cost -/
def costG (f:Hd→Nat):Ex→Nat
 | .mk h kids=>if h.kind=1 then 0 else if h.kind=2 then f h else costGL f kids
def costGL (f:Hd→Nat):List Ex→Nat
 | []=>0
 | k::r=>costG f k+costGL f r
end
def exc (o:Option Mn):Except Int Mn:=match o with | none=>.error 3 | some m=>.ok m
def exb (o:Except Int Mn) (g:Mn→Except Int Mn):Except Int Mn:=match o with | .error x=>.error x | .ok m=>g m
theorem evg_num {f:Hd→Except Int (List Cl)} {h:Hd} {kids:List Ex} (e:h.kind=1):evG f (.mk h kids)=.ok ⟨true,[([],h.n)]⟩:=by rw [evG,if_pos e]
theorem evg_win {f:Hd→Except Int (List Cl)} {h:Hd} {kids:List Ex} (e:h.kind=2):evG f (.mk h kids)=(match f h with | .error x=>.error x | .ok c=>.ok ⟨false,c⟩):=by rw [evG,if_neg (by omega),if_pos e]
theorem evg_all {f:Hd→Except Int (List Cl)} {h:Hd} {k:Ex} (e:h.kind=3):evG f (.mk h [k])=exb (evG f k) fun m=>exc ((allA h.word h.bs [] m.cs).map fun c=>⟨false,c⟩):=by
 rw [evG,if_neg (by omega),if_neg (by omega),evGL]
 cases evG f k with
 | error x=>rfl
 | ok m =>
  simp only [exb,evGL,e,if_true,List.getD_cons_zero]
  cases allA h.word h.bs [] m.cs <;> rfl
theorem evg_bin {f:Hd→Except Int (List Cl)} {h:Hd} {a b:Ex} (e:h.kind=4):evG f (.mk h [a,b])=exb (evG f a) fun m=>exb (evG f b) fun m'=>exc (binM m m' h.word):=by
 rw [evG,if_neg (by omega),if_neg (by omega),evGL]
 cases evG f a with
 | error x=>rfl
 | ok m =>
  cases hb:evG f b with
  | error x=>simp [evGL,hb,exb]
  | ok m' =>
   have h3:¬ h.kind=3:=by omega
   simp only [exb,evGL,hb,if_neg h3,List.getD_cons_zero,List.getD_cons_succ]
   cases binM m m' h.word <;> rfl
theorem costg_num {f:Hd→Nat} {h:Hd} {kids:List Ex} (e:h.kind=1):costG f (.mk h kids)=0:=by rw [costG,if_pos e]
theorem costg_win {f:Hd→Nat} {h:Hd} {kids:List Ex} (e:h.kind=2):costG f (.mk h kids)=f h:=by rw [costG,if_neg (by omega),if_pos e]
theorem costg_all {f:Hd→Nat} {h:Hd} {k:Ex} (e:h.kind=3):costG f (.mk h [k])=costG f k:=by
 rw [costG,if_neg (by omega),if_neg (by omega)];simp [costGL]
theorem costg_bin {f:Hd→Nat} {h:Hd} {a b:Ex} (e:h.kind=4):costG f (.mk h [a,b])=costG f a+costG f b:=by
 rw [costG,if_neg (by omega),if_neg (by omega)];simp [costGL]
open Go.RowKit
theorem below_step {W w1 w2:World} (h2:Below w1.heap.size w1 w2) (h1:Below W.heap.size W w1):Below W.heap.size W w2:=h1.trans (h2.mono h1.size)
end Go.GrainU
namespace Go.Proofs.YtoldmigappbjcaaGreatDoor
open Go.RowKit Go.GrainU
end Go.Proofs.YtoldmigappbjcaaGreatDoor
namespace Go.GrainU
open Go.RowKit
theorem list_ne2 {x:ByteArray} {l:List UInt8} (h:¬ x=lit l):(x.toList == l)=false:=by
 have:=(word_ne h).2
 rw [show (lit l).toList=l from ByteArray.toList_mk l] at this
 exact this
def ov (o:Option Int):Int:=match o with | some v=>v | none=>0
def oe (o:Option Int):Int:=match o with | some _=>0 | none=>3
def bnd (v:Int):Option Int:=if big v=true then none else some v
theorem wkd_plus (a b:Int):wkd (lit [43]) a b=bnd (a+b):=by simp [wkd,bnd]
theorem lit_43_45:¬ lit [45]=lit [43]:=by decide
theorem wkd_minus (a b:Int):wkd (lit [45]) a b=bnd (a-b):=by simp [wkd,bnd,lit_43_45]
theorem big_false {v:Int} (h:big v=false) : -MC≤v∧v≤MC:=by
 unfold big at h
 have:=of_decide_eq_false h
 omega
theorem wkd_times {s:ByteArray} {a b:Int} (h1:¬ s=lit [43]) (h2:¬ s=lit [45]):wkd s a b=if a≠0∧MC / (max a (-a))<max b (-b) then none else some (a*b):=by
 simp [wkd,h1,h2]
theorem mul_bd {a b:Int} (h:¬ (a≠0∧MC / (max a (-a))<max b (-b))) (hb : -MC≤b∧b≤MC) : -MC≤a*b∧a*b≤MC:=by
 by_cases h0:a=0
 ·subst h0;simp [MC]
 ·have h1:max b (-b)≤MC / (max a (-a)):=by
   rcases Int.lt_or_le (MC / (max a (-a))) (max b (-b)) with h2 | h2
   ·exact absurd ⟨h0,h2⟩ h
   ·exact h2
  have hp:0<max a (-a):=by omega
  have h3:max b (-b)*max a (-a)≤MC:=(Int.le_ediv_iff_mul_le hp).1 h1
  have h4:(max b (-b))*(max a (-a))=max (a*b) (-(a*b)):=by
   rcases Int.le_total 0 a with ha | ha <;> rcases Int.le_total 0 b with hb' | hb'
   ·have:=Int.mul_nonneg ha hb'
    rw [show max a (-a)=a by omega,show max b (-b)=b by omega,Int.mul_comm b a];omega
   ·have:=Int.mul_nonneg ha (show 0≤-b by omega)
    rw [Int.mul_neg] at this
    rw [show max a (-a)=a by omega,show max b (-b) = -b by omega,Int.neg_mul,Int.mul_comm b a];omega
   ·have:=Int.mul_nonneg (show 0≤-a by omega) hb'
    rw [Int.neg_mul] at this
    rw [show max a (-a) = -a by omega,show max b (-b)=b by omega,Int.mul_neg,Int.mul_comm b a];omega
   ·have:=Int.mul_nonneg (show 0≤-a by omega) (show 0≤-b by omega)
    rw [Int.neg_mul_neg] at this
    rw [show max a (-a) = -a by omega,show max b (-b) = -b by omega,Int.neg_mul_neg,Int.mul_comm b a];omega
  omega
theorem bnd_bd {v x:Int} (h:bnd v=some x) : -MC≤x∧x≤MC:=by
 unfold bnd at h
 cases hb:big v
 ·rw [hb] at h;simp at h;rw [← h];exact big_false hb
 ·rw [hb] at h;simp at h
theorem wkd_bd {s:ByteArray} {a b v:Int} (hb : -MC≤b∧b≤MC) (h:wkd s a b=some v) : -MC≤v∧v≤MC:=by
 by_cases h1:s=lit [43]
 ·rw [h1,wkd_plus] at h;exact bnd_bd h
 by_cases h2:s=lit [45]
 ·rw [h2,wkd_minus] at h;exact bnd_bd h
 rw [wkd_times h1 h2] at h
 split at h
 ·cases h
 ·simp at h;rw [← h];exact mul_bd (by assumption) hb
end Go.GrainU
namespace Go.Proofs.YtoldmigappbjcaaGreatDoor
open Go.RowKit Go.GrainU
set_option maxHeartbeats 1000000 in
theorem mbounded_any (v:Int) (w:World) :
  Calls Tryz.prog 155 #[.int .i64 v] w fun e w'=>e=.returned (.tuple #[.int .i64 (ov (bnd v)),.int .i64 (oe (bnd v))])∧w'=w:=by
 cases hb:big v
 ·have e:bnd v=some v:=by simp [bnd,hb]
  have:=big_false hb
  rw [e]
  simp only [ov,oe]
  have h1:decide (1125899906842624<v)=false:=by simp;unfold MC at this;omega
  have h2:decide (v < -1125899906842624)=false:=by simp;unfold MC at this;omega
  clear this
  go_enter Tryz.func155,Tryz.ntmps155
  go_wp2
  go_ret2
  exact ⟨rfl,rfl⟩
 ·have e:bnd v=none:=by simp [bnd,hb]
  have:=of_decide_eq_true hb
  unfold MC at this
  rw [e]
  simp only [ov,oe]
  clear hb e
  by_cases hc:1125899906842624<v
  ·clear this
   go_enter Tryz.func155,Tryz.ntmps155
   go_wp2
   go_ret2
   exact ⟨rfl,rfl⟩
  ·have h2:v < -1125899906842624:=by omega
   clear this
   go_enter Tryz.func155,Tryz.ntmps155
   go_wp2
   go_ret2
   exact ⟨rfl,rfl⟩
set_option maxHeartbeats 1000000 in
theorem mtogether_any (x:ByteArray) (a b:Int) (w:World) (ha : -MC≤a∧a≤MC) (hb : -MC≤b∧b≤MC) :
  Calls Tryz.prog 156 #[.string x,.int .i64 a,.int .i64 b] w fun e w'=>e=.returned (.int .i64 (tog x a b))∧w'=w:=by
 unfold MC at ha hb
 by_cases h1:x=lit [109,97,120]
 ·have e:tog x a b=max a b:=by simp [tog,h1]
  obtain ⟨R,hR⟩:∃ R,R=max a b:=⟨_,rfl⟩
  rw [e,← hR,h1]
  have HR:=hide hR
  clear e hR h1
  show Calls Tryz.prog 156 #[.string ⟨#[109,97,120]⟩,.int .i64 a,.int .i64 b] w _
  go_enter Tryz.func156,Tryz.ntmps156
  go_wp2
  all_goals
   go_ret
   exact ⟨ret_int (by rw [HR.out];omega),rfl⟩
 ·by_cases h2:x=lit [109,105,110]
  ·have e:tog x a b=min a b:=by rw [tog,if_neg h1,if_pos h2]
   obtain ⟨R,hR⟩:∃ R,R=min a b:=⟨_,rfl⟩
   rw [e,← hR,h2]
   have HR:=hide hR
   clear e hR h1 h2
   show Calls Tryz.prog 156 #[.string ⟨#[109,105,110]⟩,.int .i64 a,.int .i64 b] w _
   go_enter Tryz.func156,Tryz.ntmps156
   go_wp2
   all_goals
    go_ret
    exact ⟨ret_int (by rw [HR.out];omega),rfl⟩
  ·have e:tog x a b=a+b:=by rw [tog,if_neg h1,if_neg h2]
   have q1:=list_ne2 h1
   have q2:=list_ne2 h2
   have hw:IntKind.i64.wrap (a+b)=a+b:=by rw [IntKind.wrap_i64];omega
   rw [e]
   clear e h1 h2 ha hb
   go_enter Tryz.func156,Tryz.ntmps156
   go_wp2
   go_ret
   exact ⟨rfl,rfl⟩
set_option maxHeartbeats 1000000 in
theorem mworked_any (x:ByteArray) (a b:Int) (w:World) (ha : -MC≤a∧a≤MC) (hb : -MC≤b∧b≤MC) :
  Calls Tryz.prog 158 #[.string x,.int .i64 a,.int .i64 b] w fun e w'=>e=.returned (.tuple #[.int .i64 (ov (wkd x a b)),.int .i64 (oe (wkd x a b))])∧w'=w:=by
 by_cases h1:x=lit [43]
 ·rw [h1,wkd_plus]
  unfold MC at ha hb
  have hw:IntKind.i64.wrap (a+b)=a+b:=by rw [IntKind.wrap_i64];omega
  obtain ⟨V,hV⟩:∃ V,V=ov (bnd (a+b)):=⟨_,rfl⟩
  obtain ⟨E,hE⟩:∃ E,E=oe (bnd (a+b)):=⟨_,rfl⟩
  rw [← hV,← hE]
  have HV:=hide hV
  have HE:=hide hE
  clear hV hE h1 ha hb
  show Calls Tryz.prog 158 #[.string ⟨#[43]⟩,.int .i64 a,.int .i64 b] w _
  go_enter Tryz.func158,Tryz.ntmps158
  go_wp2_with fail
  refine (mbounded_any _ w).mono ?_
  intro e w1 hh
  rw [hh.1,hh.2,← HV.out,← HE.out]
  clear hh
  go_wp2
  go_ret2
  exact ⟨rfl,rfl⟩
 by_cases h2:x=lit [45]
 ·rw [h2,wkd_minus]
  unfold MC at ha hb
  have hw:IntKind.i64.wrap (a-b)=a-b:=by rw [IntKind.wrap_i64];omega
  obtain ⟨V,hV⟩:∃ V,V=ov (bnd (a-b)):=⟨_,rfl⟩
  obtain ⟨E,hE⟩:∃ E,E=oe (bnd (a-b)):=⟨_,rfl⟩
  rw [← hV,← hE]
  have HV:=hide hV
  have HE:=hide hE
  clear hV hE h1 h2 ha hb
  show Calls Tryz.prog 158 #[.string ⟨#[45]⟩,.int .i64 a,.int .i64 b] w _
  go_enter Tryz.func158,Tryz.ntmps158
  go_wp2_with fail
  refine (mbounded_any _ w).mono ?_
  intro e w1 hh
  rw [hh.1,hh.2,← HV.out,← HE.out]
  clear hh
  go_wp2
  go_ret2
  exact ⟨rfl,rfl⟩
 ·rw [wkd_times h1 h2]
  have q1:=list_ne2 h1
  have q2:=list_ne2 h2
  clear h1 h2
  obtain ⟨R,hR⟩:∃ R,R=(if a≠0∧MC / (max a (-a))<max b (-b) then none else some (a*b)):=⟨_,rfl⟩
  rw [← hR]
  have mb:Hid (¬ (a≠0∧MC / (max a (-a))<max b (-b))→IntKind.i64.wrap (a*b)=a*b):=fun h=>by
   have:=mul_bd h hb
   unfold MC at this
   rw [IntKind.wrap_i64];omega
  have HR:=hide hR
  clear hR
  unfold MC at ha hb HR mb
  have n1:IntKind.i64.wrap (-a) = -a:=by rw [IntKind.wrap_i64];omega
  have n2:IntKind.i64.wrap (-b) = -b:=by rw [IntKind.wrap_i64];omega
  by_cases h0:a=0
  ·subst h0
   have HR2:Hid (R=some 0):=by show _=_;rw [HR.out];simp
   clear HR mb n1 n2 ha hb
   go_enter Tryz.func158,Tryz.ntmps158
   go_wp2
   go_ret2
   exact ⟨by rw [HR2.out];rfl,rfl⟩
  ·have g0:(a != 0)=true:=by simpa using h0
   have g1:(a == 0)=false:=by simpa using h0
   have g2:(-a == 0)=false:=by simp;omega
   obtain ⟨A,hA⟩:∃ A,A=max a (-a):=⟨_,rfl⟩
   obtain ⟨B,hB⟩:∃ B,B=max b (-b):=⟨_,rfl⟩
   obtain ⟨Q,hQ⟩:∃ Q,Q=1125899906842624 / A:=⟨_,rfl⟩
   have e1:(if a < -a then -a else a)=A:=by rw [hA];split <;> omega
   have e2:(if b < -b then -b else b)=B:=by rw [hB];split <;> omega
   have hA0:0<A:=by omega
   have hAz:¬ (A=0):=by omega
   have hQ0:0≤Q∧Q≤1125899906842624:=by
    rw [hQ]
    exact ⟨Int.ediv_nonneg (by omega) (by omega),Int.ediv_le_self _ (by omega)⟩
   have e3:IntKind.i64.wrap (1125899906842624 / A)=Q:=by rw [← hQ,IntKind.wrap_i64];omega
   have e4:IntKind.i64.wrap (Int.tdiv 1125899906842624 A)=Q:=by rw [Int.tdiv_eq_ediv_of_nonneg (by omega)];exact e3
   have e7:IntKind.i64.wrap Q=Q:=by rw [IntKind.wrap_i64];omega
   have e5:(1125899906842624:Int) / A=Q:=hQ.symm
   have e6:Int.tdiv 1125899906842624 A=Q:=by rw [Int.tdiv_eq_ediv_of_nonneg (by omega)];exact e5
   rw [← hA,← hB,← hQ] at HR mb
   have HQ0:=hide hQ0
   clear hA hB hQ hA0 hQ0 ha hb
   by_cases hc:Q<B
   ·have HR2:Hid (R=none):=by show _=_;rw [HR.out,if_pos ⟨h0,hc⟩]
    clear mb HR h0
    go_enter Tryz.func158,Tryz.ntmps158
    go_wp2
    go_ret2
    exact ⟨by rw [HR2.out];rfl,rfl⟩
   ·have HR2:Hid (R=some (a*b)):=by show _=_;rw [HR.out,if_neg (fun h=>hc h.2)]
    have hm:=mb.out (fun h=>hc h.2)
    clear mb HR h0
    go_enter Tryz.func158,Tryz.ntmps158
    go_wp2
    go_ret2
    exact ⟨by rw [HR2.out];rfl,rfl⟩
set_option maxRecDepth 100000 in
set_option maxHeartbeats 1000000 in
theorem mcheck_any (t:ET) (time:Int) (w:World) (hin:t.In w) :
  Calls Tryz.prog 66 #[eval t,.int .i64 time] w fun e w'=>e=.returned (.int .i64 (chk t.ex time))∧Below w.heap.size w w':=by
 have P3:=hide (pwrong_any t)
 have P7:=hide (ptyped_any t)
 obtain ⟨R,hR⟩:∃ R,R=chk t.ex time:=⟨_,rfl⟩
 have HR0:Hid (R=if (wr t.ex 1 0).1=0 then (if typ t.ex=0 then (if time<0∨1000000<time then 3 else 0) else typ t.ex) else (wr t.ex 1 0).1):=hR
 rw [← hR]
 clear hR
 generalize (wr t.ex 1 0).1=E at P3 HR0
 generalize typ t.ex=U at P7 HR0
 unfold eval at P3 P7 ⊢
 generalize t.hd.ms.length=ml at *
 generalize t.hd.bs.length=bl at *
 generalize t.kids.length=kl at *
 obtain ⟨W,hW⟩:∃ W,W=w.alloc (.cells #[.int .i64 t.hd.kind,.int .i64 t.hd.n,.int .i64 t.hd.range,.string t.hd.word,.slice t.sp.ma ml t.sp.mc,.slice t.sp.ba bl t.sp.bc,.slice t.sp.ka kl t.sp.kc] 41):=⟨_,rfl⟩
 have bel0:Below w.heap.size w W:=by rw [hW];exact (Below.refl _ _).alloc (Nat.le_refl _) _
 have F0:W.heap[w.heap.size]?=some (.cells #[.int .i64 t.hd.kind,.int .i64 t.hd.n,.int .i64 t.hd.range,.string t.hd.word,.slice t.sp.ma ml t.sp.mc,.slice t.sp.ba bl t.sp.bc,.slice t.sp.ka kl t.sp.kc] 41 (0,0)):=by rw [hW];exact heap_alloc_new w _
 have HIN:=hide (ET.In.below bel0 t hin)
 have HW:=hide hW
 clear hW hin
 go_enter Tryz.func66,Tryz.ntmps66
 go_wp2_with fail
 rw [← HW.out]
 refine (P3.out W HIN.out).mono ?_
 rintro e w1 ⟨rfl,b1⟩
 by_cases h0:E=0
 ·have HR1:Hid (R=if U=0 then (if time<0∨1000000<time then 3 else 0) else U):=by show _=_;rw [HR0.out,if_pos h0]
  subst h0
  clear HR0
  obtain ⟨p0,p1,p2,p3,p4,p5,p6⟩:=seven_cells (below_block b1 F0)
  go_wp2_with fail
  refine (P7.out w1 (ET.In.below b1 t HIN.out)).mono ?_
  rintro e w2 ⟨rfl,b2⟩
  have b3:Below w.heap.size w w2:=bel0.trans ((below_step b2 b1).mono bel0.size)
  by_cases h1:U=0
  ·have HR2:Hid (R=if time<0∨1000000<time then 3 else 0):=by show _=_;rw [HR1.out,if_pos h1]
   subst h1
   clear HR1 p0 p1 p2 p3 p4 p5 p6 b1 b2
   go_wp2
   all_goals
    go_ret
    first
     | exact ⟨ret_int (by rw [HR2.out,if_pos (by omega)]),b3⟩
     | exact ⟨ret_int (by rw [HR2.out,if_neg (by omega)]),b3⟩
  ·have HR2:Hid (R=U):=by show _=_;rw [HR1.out,if_neg h1]
   have hd:(U != 0)=true:=by simpa using h1
   clear h1 HR1 p0 p1 p2 p3 p4 p5 p6 b1 b2
   go_wp2
   go_ret
   exact ⟨ret_int HR2.out.symm,b3⟩
 ·have HR1:Hid (R=E):=by show _=_;rw [HR0.out,if_neg h0]
  have hd:(E != 0)=true:=by simpa using h0
  clear h0 HR0
  go_wp2
  go_ret
  exact ⟨ret_int HR1.out.symm,bel0.trans (b1.mono bel0.size)⟩
end Go.Proofs.YtoldmigappbjcaaGreatDoor
namespace Go.GrainU
open Go.RowKit
def CAt (l:List CT) (s:Lb) (i:Int):Prop:=(i = -1∧cellOf (cls l) s=none)∨∃ k:Nat,k<l.length∧i=k∧cellOf (cls l) s=some (ct l k).v
theorem cellOf_drop {l:List CT} {k:Nat} (h:k<l.length) (s:Lb):cellOf (cls (l.drop k)) s=if cmpS (ct l k).ser s=0 then some (ct l k).v else cellOf (cls (l.drop (k+1))) s:=by
 rw [drop_ct h];rfl
end Go.GrainU
namespace Go.Proofs.YtoldmigappbjcaaGreatDoor
open Go.RowKit Go.GrainU
set_option maxHeartbeats 1000000 in
theorem mat1_any (x:CT) (s:Lb) (B n m c':Nat) (so:Option Addr) (w:World) (hx:Seg w x.sa (lcells x.ser)) (hs:Seg w so (lcells s)) (hB:w.cell? ⟨B,0,none⟩=some (.slice so m c')) (hn:n=x.ser.length) (hm:m=s.length) (hc:n≤9223372036854775807) :
  Calls Tryz.prog 198 #[.agg #[.slice x.sa n x.sc,.int .i64 x.v],.pointer (some ⟨B,0,none⟩)] w fun e w'=>e=.returned (.bool (decide (cmpS x.ser s=0)))∧Below w.heap.size w w':=by
 have hl:B<w.heap.size:=World.block_lt_of_cell? w _ hB
 obtain ⟨V,hV⟩:∃ V,V=w.alloc (.cells #[.slice x.sa n x.sc,.int .i64 x.v] 79):=⟨_,rfl⟩
 have bel:Below w.heap.size w V:=by rw [hV];exact (Below.refl _ _).alloc (Nat.le_refl _) _
 have HV:=hide hV
 have HN:=hide hn
 have HM:=hide hm
 obtain ⟨C,hC⟩:∃ C,C=cmpS x.ser s:=⟨_,rfl⟩
 rw [← hC]
 have HC:=hide hC
 obtain ⟨R,hR⟩:∃ R,R=decide (C=0):=⟨_,rfl⟩
 rw [← hR]
 have HR:=hide hR
 clear hV hn hm hC hR
 go_enter Tryz.func198,Tryz.ntmps198
 go_wp2_with fail
 rw [← HV.out]
 refine (ncmp_any x.ser s x.sa so n m x.sc c' V (hx.below bel) (hs.below bel) HN.out HM.out hc).mono ?_
 rintro e w1 ⟨rfl,b1⟩
 rw [← HC.out]
 have b2:Below w.heap.size w w1:=bel.trans (b1.mono bel.size)
 by_cases h0:C=0
 ·have hd:Hid (R=true):=by show _=_;rw [HR.out];simpa using h0
  subst h0
  go_wp2
  go_ret
  exact ⟨ret_bool hd.out.symm,b2⟩
 ·have hd:Hid (R=false):=by show _=_;rw [HR.out];simpa using h0
  have hd2:(C == 0)=false:=by simpa using h0
  clear h0
  go_wp2
  go_ret
  exact ⟨ret_bool hd.out.symm,b2⟩
set_option maxHeartbeats 2000000 in
theorem midx_any (l:List CT) (s:Lb) (B n c m c':Nat) (co so:Option Addr) (w:World) (hl:CsIn w co l) (hs:Seg w so (lcells s)) (hB:w.cell? ⟨B,0,none⟩=some (.slice so m c')) (hn:n=l.length) (hm:m=s.length) (hb8:∀ x∈l,x.ser.length≤9223372036854775807) (hn8:n≤9223372036854775807) :
  Calls Tryz.prog 197 #[.slice co n c,.func (.func 198) #[] #[.pointer (some ⟨B,0,none⟩)]] w fun e w'=>(∃ i,e=.returned (.int .i64 i)∧CAt l s i)∧Below w.heap.size w w':=by
 have hBl:B<w.heap.size:=World.block_lt_of_cell? w _ hB
 have HN:=hide hn
 have HM:=hide hm
 have H8:=hide hb8
 clear hn hm hb8
 go_enter Tryz.func197,Tryz.ntmps197
 go_wp2
 go_loopw [8] (fun i wr=>∃ k:Nat,k≤n∧i=.int .i64 k∧Hid (cellOf (cls l) s=cellOf (cls (l.drop k)) s)∧Below w.heap.size w wr) (fun i _=>n-(intOf i).toNat)
 case atStart=>exact ⟨0,Nat.zero_le _,rfl,rfl,Below.refl _ _⟩
 case round =>
  obtain ⟨k,hk,rfl,HW,bel⟩:=hrel
  have hsz:=bel.size
  by_cases hlt:k<n
  ·have hka:k<l.length:=by rw [← HN.out];exact hlt
   obtain ⟨p,off,rfl,hbl,hcell⟩:=seg_cell hl.seg hka
   obtain ⟨x,hx⟩:∃ x,x=ct l k:=⟨_,rfl⟩
   obtain ⟨xn,hxn⟩:∃ xn,xn=x.ser.length:=⟨_,rfl⟩
   have sx:Seg w x.sa (lcells x.ser):=by rw [hx];exact hl.ser _ (ct_mem hka)
   have c0:wr.cell? ⟨p,off+k*2,none⟩=some (.slice x.sa xn x.sc):=by rw [hxn,hx];exact (bel.cell (by exact hbl)).trans (hcell k hka).1
   have c1:wr.cell? ⟨p,off+k*2+1,none⟩=some (.int .i64 x.v):=by rw [hx];exact (bel.cell (by exact hbl)).trans (hcell k hka).2
   have cB:wr.cell? ⟨B,0,none⟩=some (.slice so m c'):=(bel.cell (by exact hBl)).trans hB
   have HS:Hid (cellOf (cls l) s=if cmpS x.ser s=0 then some x.v else cellOf (cls (l.drop (k+1))) s):=by
    show _=_
    rw [HW.out,cellOf_drop hka,hx]
   have x8:xn≤9223372036854775807:=by rw [hxn,hx];exact H8.out _ (ct_mem hka)
   have HK:=hide hka
   have HX:=hide hx
   have HXN:=hide hxn
   clear hx hxn hcell hka HW
   go_wp2_with fail
   refine (mat1_any x s B xn m c' so wr (sx.below bel) (hs.below bel) cB HXN.out HM.out x8).mono ?_
   rintro e w1 ⟨rfl,hb1⟩
   have bel1:Below w.heap.size w w1:=bel.trans (hb1.mono hsz)
   clear hb1 bel c0 c1 cB
   by_cases e1:cmpS x.ser s=0
   ·have hw:Hid (cellOf (cls l) s=some (ct l k).v):=by show _=_;rw [HS.out,if_pos e1,HX.out]
    have hd:decide (cmpS x.ser s=0)=true:=by simpa using e1
    rw [hd]
    clear HS hd e1
    go_wp2
    go_ret
    exact ⟨⟨_,rfl,.inr ⟨k,HK.out,rfl,hw.out⟩⟩,bel1⟩
   ·have hw:Hid (cellOf (cls l) s=cellOf (cls (l.drop (k+1))) s):=by show _=_;rw [HS.out,if_neg e1]
    have hd:decide (cmpS x.ser s=0)=false:=by simpa using e1
    rw [hd]
    clear HS hd e1
    go_wp2
    go_roundw
    case rel=>exact ⟨k+1,by omega,by go_num,hw,bel1⟩
    case measure=>simp [intOf];omega
  ·have he:k=n:=by omega
   subst he
   have hw:Hid (cellOf (cls l) s=none):=by
    show _=_
    rw [HW.out,List.drop_eq_nil_of_le (by rw [← HN.out];omega)];rfl
   clear HW
   go_wp2
   go_ret
   exact ⟨⟨_,rfl,.inl ⟨rfl,hw.out⟩⟩,bel⟩
def oi (o:Option Int):Int:=match o with | some v=>v | none=>0
def ob (o:Option Int):Bool:=match o with | some _=>true | none=>false
set_option maxRecDepth 100000 in
set_option maxHeartbeats 2000000 in
theorem mat_any (nb:Bool) (l:List CT) (s:Lb) (n c m c':Nat) (co so:Option Addr) (w:World) (hl:CsIn w co l) (hs:Seg w so (lcells s)) (hn:n=l.length) (hm:m=s.length) (hb8:∀ x∈l,x.ser.length≤9223372036854775807) (hn8:n≤9223372036854775807) (hnb:nb=true→0<n) :
  Calls Tryz.prog 157 #[.agg #[.bool nb,.slice co n c],.slice so m c'] w fun e w'=>e=.returned (.tuple #[.int .i64 (oi (atM ⟨nb,cls l⟩ s)),.bool (ob (atM ⟨nb,cls l⟩ s))])∧Below w.heap.size w w':=by
 obtain ⟨V,hV⟩:∃ V,V=(w.alloc (.cells #[.bool nb,.slice co n c] 131)).alloc (.cells #[.slice so m c'] 32):=⟨_,rfl⟩
 have bel:Below w.heap.size w V:=by rw [hV];exact ((Below.refl _ _).alloc (Nat.le_refl _) _).alloc (by simp) _
 have F0:V.heap[w.heap.size]?=some (.cells #[.bool nb,.slice co n c] 131 (0,0)):=by rw [hV,Below.heap_alloc _ _ _ (by simp)];exact heap_alloc_new w _
 have cB:V.cell? ⟨w.heap.size+1,0,none⟩=some (.slice so m c'):=by rw [hV];simp
 have hsz:=bel.size
 have HV:=hide hV
 have HN:=hide hn
 have HM:=hide hm
 clear hV hn hm
 have hlV:=hl.below bel
 cases nb with
 | true =>
  have h0:=hnb rfl
  have hka:0<l.length:=by rw [← HN.out];exact h0
  obtain ⟨p,off,rfl,hbl,hcell⟩:=seg_cell hl.seg hka
  obtain ⟨x,hx⟩:∃ x,x=(ct l 0).v:=⟨_,rfl⟩
  have c1:w.cell? ⟨p,off+1,none⟩=some (.int .i64 x):=by
   rw [hx]
   have:=(hcell 0 hka).2
   rw [Nat.zero_mul,Nat.add_zero] at this
   exact this
  have HR:Hid (atM ⟨true,cls l⟩ s=some x):=by
   show _=_
   rw [hx]
   simp [atM,cl0,ct,cls,List.getD]
   cases l with
   | nil=>simp at hka
   | cons a r=>rfl
  obtain ⟨R1,hR1⟩:∃ R,R=oi (atM ⟨true,cls l⟩ s):=⟨_,rfl⟩
  obtain ⟨R2,hR2⟩:∃ R,R=ob (atM ⟨true,cls l⟩ s):=⟨_,rfl⟩
  rw [← hR1,← hR2]
  have HR1:Hid (R1=x):=by show _=_;rw [hR1,HR.out];rfl
  have HR2:Hid (R2=true):=by show _=_;rw [hR2,HR.out];rfl
  clear hx hcell hka hR1 hR2 HR
  have HB:=hide bel
  clear F0 cB hlV bel hsz
  go_enter Tryz.func157,Tryz.ntmps157
  go_wp2
  go_ret2
  exact ⟨by rw [HR1.out,HR2.out];rfl,by rw [← HV.out];exact HB.out⟩
 | false =>
  obtain ⟨R,hR⟩:∃ R,R=atM ⟨false,cls l⟩ s:=⟨_,rfl⟩
  rw [← hR]
  have HR:Hid (R=cellOf (cls l) s):=by show _=_;rw [hR];simp [atM]
  clear hR
  obtain ⟨f0,f1,_,_⟩:=two_cells F0
  go_enter Tryz.func157,Tryz.ntmps157
  go_wp2_with fail
  rw [← HV.out]
  refine (midx_any l s (w.heap.size+1) n c m c' co so V hlV (hs.below bel) cB HN.out HM.out hb8 hn8).mono ?_
  rintro e w1 ⟨⟨i,rfl,hi⟩,hb1⟩
  have bel1:Below w.heap.size w w1:=bel.trans (hb1.mono hsz)
  obtain ⟨f0,f1,_,_⟩:=two_cells (below_block hb1 F0)
  clear hb1
  rcases hi with ⟨rfl,hf⟩ | ⟨k,hk,rfl,hf⟩
  ·have HF:Hid (R=none):=by show _=_;rw [HR.out];exact hf
   clear hf HR
   go_wp2
   go_ret2
   exact ⟨by rw [HF.out];rfl,bel1⟩
  ·obtain ⟨p,off,rfl,hbl,hcell⟩:=seg_cell hl.seg hk
   obtain ⟨y,hy⟩:∃ y,y=(ct l k).v:=⟨_,rfl⟩
   have HF:Hid (R=some y):=by show _=_;rw [HR.out,hy];exact hf
   have c1:w1.cell? ⟨p,off+k*2+1,none⟩=some (.int .i64 y):=by rw [hy];exact (bel1.cell (by exact hbl)).trans (hcell k hk).2
   have hkn:k<n:=by rw [HN.out];exact hk
   clear hy hcell hk hf HR
   go_wp2
   go_ret2
   exact ⟨by rw [HF.out];rfl,bel1⟩
end Go.Proofs.YtoldmigappbjcaaGreatDoor
