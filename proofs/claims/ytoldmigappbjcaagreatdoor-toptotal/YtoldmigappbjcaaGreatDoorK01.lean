import Derived.BigQuiet
import Derived.Deep.AppendLies
import Derived.Deep.QuietTactic
import Derived.Handy
import Derived.WalkKit
import Derived.WalkLawsBesides
import Derived.WalkSmall
import Derived.WalkSpells
import Derived.Test.YtoldmigappbjcaaGreatDoorRows
namespace Grain
def tm (l:List (Int×Int)) (k:Nat):Int:=(l.getD k (0,0)).1
def vl (l:List (Int×Int)) (k:Nat):Int:=(l.getD k (0,0)).2
def inR (t v:Int):Bool:=decide (0≤t∧t≤1000000∧-1000000000≤v∧v≤1000000000)
def bad (l:List (Int×Int)) (k:Nat):Int :=
 if inR (tm l k) (vl l k)=false then 3 else if 0<k∧tm l k≤tm l (k-1) then 2 else 0
def wrongF (l:List (Int×Int)):Nat→Nat→Int×Int
 | 0,_=>(0,0)
 | n+1,k=>if bad l k=0 then wrongF l n (k+1) else (bad l k,k)
def wrong (l:List (Int×Int)):Int×Int:=if 500<l.length then (5,0) else wrongF l l.length 0
theorem wrongF_ok {l:List (Int×Int)} {n k:Nat} (h:bad l k=0):wrongF l (n+1) k=wrongF l n (k+1):=by simp [wrongF,h]
theorem wrongF_no {l:List (Int×Int)} {n k:Nat} (h:bad l k≠0):wrongF l (n+1) k=(bad l k,(k:Int)):=by simp [wrongF,h]
structure Right (l:List (Int×Int)):Prop where
 few:l.length≤500
 rng:∀ k,k<l.length→0≤tm l k∧tm l k≤1000000∧-1000000000≤vl l k∧vl l k≤1000000000
 rise:∀ k,k+1<l.length→tm l k<tm l (k+1)
theorem bad_zero {l:List (Int×Int)} {k:Nat} (h:bad l k=0):inR (tm l k) (vl l k)=true∧(0<k→tm l (k-1)<tm l k):=by
 unfold bad at h
 split at h
 ·simp at h
 ·rename_i h1
  split at h
  ·simp at h
  ·rename_i h2
   refine ⟨by simpa using h1,fun hk=>?_⟩
   rcases Int.lt_or_le (tm l (k-1)) (tm l k) with h3 | h3
   ·exact h3
   ·exact absurd ⟨hk,h3⟩ h2
theorem wrongF_zero (l:List (Int×Int)) (n:Nat):∀ k,(wrongF l n k).1=0→∀ j,k≤j→j<k+n→bad l j=0:=by
 induction n with
 | zero=>intro k _ j h1 h2;omega
 | succ n ih =>
  intro k h j h1 h2
  by_cases hb:bad l k=0
  ·rw [wrongF_ok hb] at h
   rcases Nat.lt_or_ge k j with h3 | h3
   ·exact ih (k+1) h j h3 (by omega)
   ·rw [show j=k from by omega];exact hb
  ·rw [wrongF_no hb] at h;exact absurd h hb
theorem right_of {l:List (Int×Int)} (h:(wrong l).1=0):Right l:=by
 unfold wrong at h
 by_cases h5:500<l.length
 ·simp [h5] at h
 ·simp only [h5,if_false] at h
  have hb:∀ j,j<l.length→_:=fun j hj=>bad_zero (wrongF_zero l l.length 0 h j (Nat.zero_le _) (by omega))
  refine ⟨by omega,fun k hk=>?_,fun k hk=>?_⟩
  ·have:=(hb k hk).1;simp [inR] at this;omega
  ·have:=(hb (k+1) hk).2 (by omega);simpa using this
theorem steps_lt (f:Nat→Int) (n:Nat) (h:∀ k,k+1<n→f k<f (k+1)):∀ d i,i+d+1<n→f i<f (i+d+1):=by
 intro d
 induction d with
 | zero=>intro i hi;exact h i hi
 | succ d ih =>
  intro i hi
  have h1:=ih i (by omega)
  have h2:=h (i+d+1) (by omega)
  rw [show i+(d+1)+1=i+d+1+1 from by omega]
  omega
theorem tm_get {l:List (Int×Int)} {k:Nat} (h:k<l.length):tm l k=l[k].1∧vl l k=l[k].2:=by simp [tm,vl,List.getD,List.getElem?_eq_getElem h]
theorem right_iff (l:List (Int×Int)):(wrong l).1=0↔l.length≤500∧(∀ x∈l,inR x.1 x.2=true)∧l.Pairwise (fun x y=>x.1<y.1):=by
 constructor
 ·intro h
  have hr:=right_of h
  refine ⟨hr.few,fun x hx=>?_,List.pairwise_iff_getElem.2 fun i j hi hj hij=>?_⟩
  ·obtain ⟨k,hk,rfl⟩:=List.mem_iff_getElem.1 hx
   have:=hr.rng k hk
   rw [(tm_get hk).1,(tm_get hk).2] at this
   simp only [inR,decide_eq_true_eq]
   exact this
  ·obtain ⟨d,rfl⟩:∃ d,j=i+d+1:=⟨j-i-1,by omega⟩
   have:=steps_lt (tm l) l.length hr.rise d i hj
   rwa [(tm_get hi).1,(tm_get hj).1] at this
 ·rintro ⟨h1,h2,h3⟩
  rw [List.pairwise_iff_getElem] at h3
  unfold wrong
  rw [if_neg (by omega)]
  have key:∀ n k,k+n≤l.length→wrongF l n k=(0,0):=by
   intro n
   induction n with
   | zero=>intro k _;rfl
   | succ n ih =>
    intro k hk
    rw [wrongF_ok,ih (k+1) (by omega)]
    have hk':k<l.length:=by omega
    have e:=h2 _ (List.getElem_mem hk')
    unfold bad
    rw [(tm_get hk').1,(tm_get hk').2,if_neg (by simp [e]),if_neg]
    rintro ⟨p,q⟩
    have:=h3 (k-1) k (by omega) hk' (by omega)
    rw [(tm_get (k:=k-1) (by omega)).1] at q
    omega
  rw [key _ 0 (by omega)]
end Grain
namespace Go.GrainU
open Go.RowKit
def Seg (w:World) (ao:Option Addr) (xs:List Value):Prop :=
 xs=[]∨∃ b off,ao=some ⟨b,off,none⟩∧∀ j,j<xs.length→w.cell? ⟨b,off+j,none⟩=xs[j]?
def scells:List (Int×Int)→List Value
 | []=>[]
 | s::r=>.int .i64 s.1::.int .i64 s.2::scells r
theorem scells_length (l:List (Int×Int)):(scells l).length=l.length*2:=by
 induction l with
 | nil=>rfl
 | cons s r ih=>simp only [scells,List.length_cons,ih];omega
theorem scells_at (l:List (Int×Int)):∀ k,k<l.length→(scells l)[k*2]?=some (.int .i64 (Grain.tm l k))∧(scells l)[k*2+1]?=some (.int .i64 (Grain.vl l k)):=by
 induction l with
 | nil=>intro k hk;simp at hk
 | cons s r ih =>
  intro k hk
  match k with
  | 0=>simp [scells,Grain.tm,Grain.vl]
  | k+1 =>
   have:=ih k (by simpa using hk)
   rw [show (k+1)*2=k*2+1+1 from by omega]
   simpa [scells,Grain.tm,Grain.vl] using this
theorem Seg.sample {w:World} {ao:Option Addr} {l:List (Int×Int)} (h:Seg w ao (scells l)) {k:Nat} (hk:k<l.length) :
  ∃ b off,ao=some ⟨b,off,none⟩∧∀ j,j<l.length→w.cell? ⟨b,off+j*2,none⟩=some (.int .i64 (Grain.tm l j))∧w.cell? ⟨b,off+j*2+1,none⟩=some (.int .i64 (Grain.vl l j)):=by
 rcases h with h | ⟨b,off,rfl,h⟩
 ·have:=scells_length l;rw [h] at this;simp at this;omega
 ·refine ⟨b,off,rfl,fun j hj=>?_⟩
  have hs:=scells_length l
  have hc:=scells_at l j hj
  exact ⟨(h (j*2) (by omega)).trans hc.1,by rw [Nat.add_assoc];exact (h (j*2+1) (by omega)).trans hc.2⟩
theorem Seg.block_lt {w:World} {b off:Nat} {xs:List Value} (h:∀ j,j<xs.length→w.cell? ⟨b,off+j,none⟩=xs[j]?) (hx:xs≠[]):b<w.heap.size:=by
 match xs,hx with
 | x::r,_ =>
  have:=h 0 (by simp)
  exact World.block_lt_of_cell? w ⟨b,off+0,none⟩ (u:=x) (by simpa using this)
theorem Seg.below {w w':World} {ao:Option Addr} {xs:List Value} (h:Seg w ao xs) (hb:Below w.heap.size w w'):Seg w' ao xs:=by
 rcases h with h | ⟨b,off,rfl,h⟩
 ·exact .inl h
 ·by_cases hx:xs=[]
  ·exact .inl hx
  ·have hl:=Seg.block_lt h hx
   exact .inr ⟨b,off,rfl,fun j hj=>(hb.cell (p:=⟨b,off+j,none⟩) hl).trans (h j hj)⟩
theorem bcell {W w1:World} (hb:Below W.heap.size W w1):(∀ b o,b<W.heap.size→w1.cell? ⟨b,o,none⟩=W.cell? ⟨b,o,none⟩)∧(∀ b o,b<W.heap.size→w1.frozen? ⟨b,o,none⟩=W.frozen? ⟨b,o,none⟩) :=
 ⟨fun b o h=>hb.cell (p:=⟨b,o,none⟩) h,fun b o h=>hb.frozen (p:=⟨b,o,none⟩) h⟩
theorem hide {p:Prop} (h:p):Hid p:=h
theorem ret_int {k:IntKind} {a b:Int} (h:a=b):Ending.returned (.int k a)=.returned (.int k b):=by rw [h]
theorem ret_bool {a b:Bool} (h:a=b):Ending.returned (.bool a)=.returned (.bool b):=by rw [h]
theorem two_cells {w:World} {B:Nat} {x y:Value} {t:TypeId} (h:w.heap[B]?=some (.cells #[x,y] t (0,0))) :
  w.cell? ⟨B,0,none⟩=some x∧w.cell? ⟨B,1,none⟩=some y∧w.frozen? ⟨B,0,none⟩=false∧w.frozen? ⟨B,1,none⟩=false:=by
 simp [World.cell?,World.frozen?,h]
theorem grown_trans {a b c : World} {r r' : Option Nat} (h : a.grownBy b r) (h' : b.grownBy c r') (hr : ∀ k, r' = some k → r = some k ∨ a.heap.size ≤ k) : a.grownBy c r :=
  ⟨h'.os.trans h.os, h'.tape.trans h.tape, h'.output.trans h.output, Nat.le_trans h.size h'.size, fun k hk hne =>
    (h'.block k (Nat.lt_of_lt_of_le hk h.size) (fun e => by rcases hr k e.symm with e' | e'; · exact hne e'.symm
                                                            · omega)).trans (h.block k hk hne)⟩
theorem two_set {w:World} {B:Nat} {x y:Value} {t:TypeId} (h:w.heap[B]?=some (.cells #[x,y] t (0,0))) (p q:Value) :
  ((w.setCell ⟨B,0,none⟩ p).setCell ⟨B,1,none⟩ q).heap[B]?=some (.cells #[p,q] t (0,0)):=by
 simp [World.setCell,Array.getElem?_modify,h]
theorem setCell_far {w:World} {B k o:Nat} {p:Value} (h:k≠B):(w.setCell ⟨B,o,none⟩ p).heap[k]?=w.heap[k]?:=Below.heap_setCell w _ p k h
theorem own_block {w:World} {base e size g n cap:Nat} {xs:List Value} (hown:w.ownsRow base e size (.slice (some ⟨g,0,none⟩) n cap) n xs):base≤g∧g<w.heap.size:=by
 rcases hown.2 with ⟨h0,_⟩ | ⟨g',cap',cur,h0,hb,hh,_⟩
 ·simp at h0
 ·simp at h0
  rw [h0.1]
  exact ⟨hb,lt_of_block hh⟩
theorem scells_append (a b:List (Int×Int)):scells (a++b)=scells a++scells b:=by
 induction a with
 | nil=>rfl
 | cons x r ih=>simp [scells,ih]
theorem own_slen {w:World} {base e N:Nat} {v:Value} {l:List (Int×Int)} (h:w.ownsRow base e 2 v N (scells l)):N=l.length:=by
 have:=h.1;rw [scells_length] at this;omega
theorem own_seg {w:World} {base e size g n cap:Nat} {xs:List Value} (h:w.ownsRow base e size (.slice (some ⟨g,0,none⟩) n cap) n xs):Seg w (some ⟨g,0,none⟩) xs:=by
 refine .inr ⟨g,0,rfl,fun j hj=>?_⟩
 rw [Nat.zero_add]
 exact h.cellAt j (by rw [← h.1];exact hj)
theorem below_block {w w':World} (hb:Below w.heap.size w w') {k:Nat} {o:Obj} (h:w.heap[k]?=some o):w'.heap[k]?=some o:=by
 rw [hb.block k (lt_of_block h)];exact h
theorem own_below {w w':World} {base e size n:Nat} {v:Value} {xs:List Value} (h:w.ownsRow base e size v n xs) (hb:Below w.heap.size w w'):w'.ownsRow base e size v n xs :=
 h.kept (row:=none) ⟨hb.os,hb.tape,hb.output,hb.size,fun k hk _=>hb.block k hk⟩ (by
  cases v.ownBlock with
  | none=>exact .inl rfl
  | some x=>exact .inr (by simp))
theorem news_two {W:World} {B:Nat} (hB:W.heap.size=B) (x y:Value) (t:TypeId):∀ j u,[x,y][j]?=some u→(W.alloc (.cells #[x,y] t)).cell? ((⟨B,0,none⟩:Addr).add j)=some u:=by
 subst hB;exact cell_two_new W x y t
theorem seg_new (w:World) (cs:Array Value) (t:TypeId):Seg (w.alloc (.cells cs t)) (some ⟨w.heap.size,0,none⟩) cs.toList:=by
 refine .inr ⟨w.heap.size,0,rfl,fun j hj=>?_⟩
 rw [Nat.zero_add,World.cell?_alloc_new]
 simp
theorem own_cap {w:World} {base e size g n cap:Nat} {xs:List Value} (hown:w.ownsRow base e size (.slice (some ⟨g,0,none⟩) n cap) n xs):n≤cap∧cap≤maxLen:=by
 rcases hown.2 with ⟨h0,_⟩ | ⟨g',cap',cur,h0,hb,hh,h1,h2,_⟩
 ·simp at h0
 ·simp at h0
  rw [h0.2]
  exact ⟨h1,h2⟩
open Go.RowKit
def wcells (l:List ByteArray):List Value:=l.map Value.string
theorem seg_word {w:World} {ao:Option Addr} {l:List ByteArray} (h:Seg w ao (wcells l)) {k:Nat} (hk:k<l.length) :
  ∃ b off,ao=some ⟨b,off,none⟩∧b<w.heap.size∧∀ j,j<l.length→w.cell? ⟨b,off+j,none⟩=some (.string (l.getD j ⟨#[]⟩)):=by
 rcases h with h | ⟨b,off,rfl,h⟩
 ·have:=congrArg List.length h;simp [wcells] at this;subst this;simp at hk
 ·have hc:∀ j,j<l.length→w.cell? ⟨b,off+j,none⟩=some (.string (l.getD j ⟨#[]⟩)):=fun j hj=>by
   rw [h j (by simpa [wcells] using hj)]
   simp [wcells,List.getElem?_eq_getElem hj,List.getD]
  exact ⟨b,off,rfl,World.block_lt_of_cell? w ⟨b,off+k,none⟩ (hc k hk),hc⟩
def has (ks:List ByteArray) (x:ByteArray):Bool:=ks.any fun k=>decide (k=x)
theorem has_none {ks:List ByteArray} {x:ByteArray} (h:∀ j,j<ks.length→ks.getD j ⟨#[]⟩≠x):has ks x=false:=by
 unfold has
 rw [List.any_eq_false]
 intro k hk
 obtain ⟨j,hj,e⟩:=List.mem_iff_getElem.1 hk
 have:=h j hj
 simp only [List.getD,List.getElem?_eq_getElem hj,e,Option.getD_some] at this
 simpa using this
theorem has_at {ks:List ByteArray} {x:ByteArray} {j:Nat} (hj:j<ks.length) (h:ks.getD j ⟨#[]⟩=x):has ks x=true:=by
 unfold has
 rw [List.any_eq_true]
 exact ⟨ks.getD j ⟨#[]⟩,by simp [List.getD,List.getElem?_eq_getElem hj],by simpa using h⟩
open Go.RowKit
theorem grown_of_below {w w':World} (hb:Below w.heap.size w w'):w.grownBy w' none:=⟨hb.os,hb.tape,hb.output,hb.size,fun k hk _=>hb.block k hk⟩
theorem grown_call {W V w':World} {r:Option Nat} (h:W.grownBy V r) (hb:Below V.heap.size V w'):W.grownBy w' r:=grown_trans h (grown_of_below hb) (fun k hk=>by cases hk)
end Go.GrainU
namespace Go.Proofs.YtoldmigappbjcaaGreatDoor
open Go.RowKit Go.GrainU
set_option maxHeartbeats 400000 in
theorem inRange_any (t v:Int) (w:World) :
  Calls Tryz.prog 75 #[.agg #[.int .i64 t,.int .i64 v]] w fun e w'=>e=.returned (.bool (Grain.inR t v))∧Below w.heap.size w w':=by
 go_enter Tryz.func75,Tryz.ntmps75
 go_wp2
 all_goals
  go_ret
  refine ⟨ret_bool ?_,(Below.refl _ _).alloc (Nat.le_refl _) _⟩
  rw [Bool.eq_iff_iff]
  simp [Grain.inR]
  omega
set_option maxHeartbeats 400000 in
theorem wrong_any (l:List (Int×Int)) (ao:Option Addr) (cap:Nat) (w:World) (hs:Seg w ao (scells l)) :
  Calls Tryz.prog 45 #[.slice ao l.length cap] w fun e w'=>e=.returned (.agg #[.int .i64 (Grain.wrong l).1,.int .i64 (Grain.wrong l).2])∧Below w.heap.size w w':=by
 by_cases h5:500<l.length
 ·have hw:Grain.wrong l=(5,0):=by simp [Grain.wrong,h5]
  rw [hw];clear hw
  go_enter Tryz.func45,Tryz.ntmps45
  go_wp2
  exact bodyPost_ret (v:=.agg #[.int .i64 5,.int .i64 0]) (by simp [results,Tryz.results45,go_sem]) rfl ⟨rfl,by go_grown⟩
 ·have hw:Grain.wrong l=Grain.wrongF l l.length 0:=by simp [Grain.wrong,h5]
  rw [hw];clear hw
  have hd:decide ((500:Int)<(l.length:Int))=false:=by simp;omega
  go_enter Tryz.func45,Tryz.ntmps45
  go_wp2
  go_loopw [11] (fun i wr=>∃ k:Nat,k≤l.length∧i=.int .i64 k∧Hid (Grain.wrongF l l.length 0=Grain.wrongF l (l.length-k) k)∧wr.heap[w.heap.size]?=some (.cells #[.int .i64 0,.int .i64 0] 43 (0,0))∧Below w.heap.size w wr) (fun i _=>l.length-(intOf i).toNat)
  case atStart=>exact ⟨0,Nat.zero_le _,rfl,rfl,heap_alloc_new w _,by go_grown⟩
  case round =>
   obtain ⟨k,hk,rfl,HW,hres,hbel⟩:=hrel
   by_cases hlt:k<l.length
   ·obtain ⟨b,off,rfl,hcell⟩:=hs.sample hlt
    have hb:b<w.heap.size:=World.block_lt_of_cell? w ⟨b,off+k*2,none⟩ (hcell k hlt).1
    have c0:wr.cell? ⟨b,off+k*2,none⟩=some (.int .i64 (Grain.tm l k)):=(hbel.cell (by exact hb)).trans (hcell k hlt).1
    have c1:wr.cell? ⟨b,off+k*2+1,none⟩=some (.int .i64 (Grain.vl l k)):=(hbel.cell (by exact hb)).trans (hcell k hlt).2
    have hB:w.heap.size<wr.heap.size:=lt_of_block hres
    go_wp2_with fail
    refine (inRange_any _ _ _).mono ?_
    rintro e w1 ⟨rfl,hb1⟩
    obtain ⟨hc1,hf1⟩:=bcell hb1
    have hsz:wr.heap.size+1≤w1.heap.size:=by have:=hb1.size;simpa using this
    have hres1:w1.heap[w.heap.size]?=some (.cells #[.int .i64 0,.int .i64 0] 43 (0,0)):=by
     rw [hb1.block _ (by simp;omega),Below.heap_alloc _ _ _ hB];exact hres
    have hbel1:Below w.heap.size w w1:=(hbel.alloc (by omega) _).trans (hb1.mono (by simp;omega))
    obtain ⟨r0,r1,r2,r3⟩:=two_cells hres1
    have x0:w1.cell? ⟨wr.heap.size,0,none⟩=some (.int .i64 (Grain.tm l k)):=by
     rw [hc1 _ _ (by simp)];exact (two_cells (heap_alloc_new wr _)).1
    clear hc1 hf1 hb1 c0 c1 hres hbel
    cases hin:Grain.inR (Grain.tm l k) (Grain.vl l k)
    ·have hw:Hid (Grain.wrongF l l.length 0=(3,(k:Int))):=by
      show Grain.wrongF l l.length 0=(3,(k:Int))
      rw [HW.out,show l.length-k=(l.length-k-1)+1 from by omega,Grain.wrongF_no (by simp [Grain.bad,hin])];simp [Grain.bad,hin]
     clear HW hin
     go_wp2
     exact bodyPost_ret (v:=.agg #[.int .i64 3,.int .i64 k]) (by simp [results,Tryz.results45,go_sem,r0,r1]) rfl ⟨by rw [hw.out],(hbel1.setCell (Nat.le_refl _) _).setCell (Nat.le_refl _) _⟩
    ·rcases Nat.eq_zero_or_pos k with hk0 | hk0
     ·subst hk0
      have hg:decide ((0:Int)<((0:Nat):Int))=false:=by decide
      have hg':decide ((0:Int)<0)=false:=by decide
      have hw:Hid (Grain.wrongF l l.length 0=Grain.wrongF l (l.length-(0+1)) (0+1)):=by
       show Grain.wrongF l l.length 0=Grain.wrongF l (l.length-(0+1)) (0+1)
       rw [HW.out,show l.length-0=(l.length-(0+1))+1 from by omega,Grain.wrongF_ok (by simp [Grain.bad,hin])]
      clear HW hin
      go_wp2
      go_quiet (fail)
      go_wp2
      go_roundw
      case rel=>exact ⟨0+1,by omega,by go_num,hw,hres1,below_drewN hbel1 _⟩
      case measure=>simp [intOf];omega
     ·obtain ⟨m,rfl⟩:∃ m,k=m+1:=⟨k-1,by omega⟩
      have hg:decide ((0:Int)<((m+1:Nat):Int))=true:=by simp
      have hg':decide ((0:Int)<(m:Int)+1)=true:=by simp
      have hw2:Hid (Grain.tm l (m+1)≤Grain.tm l m→Grain.wrongF l l.length 0=(2,((m:Int)+1))):=by
       intro hle
       rw [HW.out,show l.length-(m+1)=(l.length-(m+1)-1)+1 from by omega,Grain.wrongF_no (by simp [Grain.bad,hin,hle])];simp [Grain.bad,hin,hle]
      have hw:Hid (Grain.tm l m<Grain.tm l (m+1)→Grain.wrongF l l.length 0=Grain.wrongF l (l.length-(m+1+1)) (m+1+1)):=by
       intro hle
       rw [HW.out,show l.length-(m+1)=(l.length-(m+1+1))+1 from by omega,Grain.wrongF_ok (by simp [Grain.bad,hin];omega)]
      clear HW hin
      have p0:w1.cell? ⟨b,off+m*2,none⟩=some (.int .i64 (Grain.tm l m)):=(hbel1.cell (by exact hb)).trans (hcell m (by omega)).1
      go_wp2
      go_quiet (fail)
      go_wp2
      ·exact bodyPost_ret (v:=.agg #[.int .i64 2,.int .i64 ((m:Int)+1)]) (by simp [results,Tryz.results45,go_sem,r0,r1]) rfl ⟨by rw [hw2.out (by assumption)],((below_drewN hbel1 _).setCell (Nat.le_refl _) _).setCell (Nat.le_refl _) _⟩
      ·go_roundw
       case rel=>exact ⟨m+1+1,by omega,by go_num,hw.out (by assumption),hres1,below_drewN hbel1 _⟩
       case measure=>simp [intOf];omega
   ·obtain ⟨r0,r1,r2,r3⟩:=two_cells hres
    have he:k=l.length:=by omega
    subst he
    have hw:Hid (Grain.wrongF l l.length 0=(0,0)):=by
     show Grain.wrongF l l.length 0=(0,0)
     rw [HW.out];simp [Grain.wrongF]
    clear HW
    go_wp2
    exact bodyPost_ret (v:=.agg #[.int .i64 0,.int .i64 0]) (by simp [results,Tryz.results45,go_sem,r0,r1]) rfl ⟨by rw [hw.out],(hbel.setCell (Nat.le_refl _) _).setCell (Nat.le_refl _) _⟩
theorem wrong_len (l:List (Int×Int)) (ao:Option Addr) (N cap:Nat) (w:World) (hs:Seg w ao (scells l)) (hN:N=l.length) :
  Calls Tryz.prog 45 #[.slice ao N cap] w fun e w'=>e=.returned (.agg #[.int .i64 (Grain.wrong l).1,.int .i64 (Grain.wrong l).2])∧Below w.heap.size w w':=by
 subst hN;exact wrong_any l ao cap w hs
end Go.Proofs.YtoldmigappbjcaaGreatDoor
