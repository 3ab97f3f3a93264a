import Derived.Deep.AppendLies
import Derived.Laws.Strings
import Derived.Laws.StructEq
import Derived.WalkKit
import Derived.Test.YtoldmigappbjcaaGreatDoorK01
import Derived.Test.YtoldmigappbjcaaGreatDoorK04
import Derived.Test.YtoldmigappbjcaaGreatDoorRows
namespace Grain
def byt (s:ByteArray) (k:Nat):Int:=((s.data.toList.getD k 0).toNat:Int)
def low (c:Int):Bool:=decide (97≤c) && decide (c≤122)
def badN (k:Nat) (c:Int):Bool:=(decide (k=0) && !low c) || (!low c && (decide (c≠95) && (decide (c<48) || decide (57<c))))
def fineN (s:ByteArray):Nat→Bool
 | 0=>true
 | k+1=>fineN s k && !badN k (byt s k)
def named (s:ByteArray):Bool:=fineN s s.size && (decide (0<s.size) && decide (s.size≤12))
theorem fineN_no {s:ByteArray} {k:Nat} (h:badN k (byt s k)=true):∀ n,k<n→fineN s n=false:=by
 intro n
 induction n with
 | zero=>intro h;omega
 | succ n ih =>
  intro hk
  rcases (show k<n∨k=n from by omega) with e | e
  ·simp [fineN,ih e]
  ·subst e;simp [fineN,h]
end Grain
namespace Go.GrainU
open Go.RowKit
def lcells:List (ByteArray×ByteArray)→List Value
 | []=>[]
 | s::r=>.string s.1::.string s.2::lcells r
def lk (l:List (ByteArray×ByteArray)) (k:Nat):ByteArray:=(l.getD k (⟨#[]⟩,⟨#[]⟩)).1
def lv (l:List (ByteArray×ByteArray)) (k:Nat):ByteArray:=(l.getD k (⟨#[]⟩,⟨#[]⟩)).2
theorem lcells_length (l:List (ByteArray×ByteArray)):(lcells l).length=l.length*2:=by
 induction l with
 | nil=>rfl
 | cons s r ih=>simp only [lcells,List.length_cons,ih];omega
theorem lcells_at (l:List (ByteArray×ByteArray)):∀ k,k<l.length→(lcells l)[k*2]?=some (.string (lk l k))∧(lcells l)[k*2+1]?=some (.string (lv l k)):=by
 induction l with
 | nil=>intro k hk;simp at hk
 | cons s r ih =>
  intro k hk
  match k with
  | 0=>simp [lcells,lk,lv]
  | k+1 =>
   have:=ih k (by simpa using hk)
   rw [show (k+1)*2=k*2+1+1 from by omega]
   simpa [lcells,lk,lv] using this
theorem lcells_append (a b:List (ByteArray×ByteArray)):lcells (a++b)=lcells a++lcells b:=by
 induction a with
 | nil=>rfl
 | cons x r ih=>simp [lcells,ih]
theorem seg_label {w:World} {ao:Option Addr} {l:List (ByteArray×ByteArray)} (h:Seg w ao (lcells l)) {k:Nat} (hk:k<l.length) :
  ∃ b off,ao=some ⟨b,off,none⟩∧b<w.heap.size∧∀ j,j<l.length→w.cell? ⟨b,off+j*2,none⟩=some (.string (lk l j))∧w.cell? ⟨b,off+j*2+1,none⟩=some (.string (lv l j)):=by
 have hs:=lcells_length l
 rcases h with h | ⟨b,off,rfl,h⟩
 ·rw [h] at hs;simp at hs;omega
 ·have hc:∀ j,j<l.length→w.cell? ⟨b,off+j*2,none⟩=some (.string (lk l j))∧w.cell? ⟨b,off+j*2+1,none⟩=some (.string (lv l j)):=fun j hj=>by
   have:=lcells_at l j hj
   exact ⟨(h (j*2) (by omega)).trans this.1,by rw [Nat.add_assoc];exact (h (j*2+1) (by omega)).trans this.2⟩
  exact ⟨b,off,rfl,World.block_lt_of_cell? w ⟨b,off+k*2,none⟩ (hc k hk).1,hc⟩
theorem take_lab {l:List (ByteArray×ByteArray)} {k:Nat} (h:k<l.length):l.take (k+1)=l.take k++[(lk l k,lv l k)]:=by
 rw [List.take_add_one,List.getElem?_eq_getElem h]
 simp only [lk,lv,List.getD,List.getElem?_eq_getElem h,Option.getD_some,Option.toList_some]
theorem toList_inj {a b:ByteArray} (h:a.toList=b.toList):a=b:=by
 rw [ByteArray.toList_eq,ByteArray.toList_eq] at h
 cases a
 cases b
 simp at h
 rw [h]
theorem word_eq (a b:ByteArray):(a.toList == b.toList)=decide (a=b):=by
 rw [Bool.eq_iff_iff]
 simp only [beq_iff_eq,decide_eq_true_eq]
 exact ⟨toList_inj,fun h=>by rw [h]⟩
theorem word_ne {a b:ByteArray} (h:a≠b):(a == b)=false∧(a.toList == b.toList)=false:=by
 have h1:(a.toList == b.toList)=false:=by rw [word_eq];simpa using h
 exact ⟨by rw [Go.beq_toListBytes];exact h1,h1⟩
theorem word_self (a:ByteArray):(a == a)=true∧(a.toList == a.toList)=true:=by
 have h1:(a.toList == a.toList)=true:=by simp
 exact ⟨by rw [Go.beq_toListBytes];exact h1,h1⟩
open Go.RowKit
def wle (a b:ByteArray):Bool:=Op.bytesLess a.toList b.toList || a.toList == b.toList
def badS (l:List (ByteArray×ByteArray)) (k:Nat):Int :=
 if (Grain.named (lk l k) && Grain.named (lv l k))=false then 7 else if 0<k∧wle (lk l k) (lk l (k-1))=true then 2 else 0
def wrongSF (l:List (ByteArray×ByteArray)):Nat→Nat→Int
 | 0,_=>0
 | n+1,k=>if badS l k=0 then wrongSF l n (k+1) else badS l k
def wrongS (l:List (ByteArray×ByteArray)):Int:=if 4<l.length then 5 else wrongSF l l.length 0
theorem wrongSF_ok {l:List (ByteArray×ByteArray)} {n k:Nat} (h:badS l k=0):wrongSF l (n+1) k=wrongSF l n (k+1):=by simp [wrongSF,h]
theorem wrongSF_no {l:List (ByteArray×ByteArray)} {n k:Nat} (h:badS l k≠0):wrongSF l (n+1) k=badS l k:=by simp [wrongSF,h]
def Fits (l:List (ByteArray×ByteArray)):Prop:=∀ k,k<l.length→(lk l k).size≤9223372036854775807∧(lv l k).size≤9223372036854775807
open Go.RowKit
structure Mt where
 kind:Int
 key:ByteArray
 val:ByteArray
def mcells:List Mt→List Value
 | []=>[]
 | x::r=>.int .i64 x.kind::.string x.key::.string x.val::mcells r
def mt (l:List Mt) (k:Nat):Mt:=l.getD k ⟨0,⟨#[]⟩,⟨#[]⟩⟩
theorem mcells_length (l:List Mt):(mcells l).length=l.length*3:=by
 induction l with
 | nil=>rfl
 | cons s r ih=>simp only [mcells,List.length_cons,ih];omega
theorem mcells_at (l:List Mt):∀ k,k<l.length→(mcells l)[k*3]?=some (.int .i64 (mt l k).kind)∧(mcells l)[k*3+1]?=some (.string (mt l k).key)∧(mcells l)[k*3+2]?=some (.string (mt l k).val):=by
 induction l with
 | nil=>intro k hk;simp at hk
 | cons s r ih =>
  intro k hk
  match k with
  | 0=>simp [mcells,mt]
  | k+1 =>
   have:=ih k (by simpa using hk)
   rw [show (k+1)*3=k*3+1+1+1 from by omega]
   simpa [mcells,mt] using this
theorem seg_match {w:World} {ao:Option Addr} {l:List Mt} (h:Seg w ao (mcells l)) {k:Nat} (hk:k<l.length) :
  ∃ b off,ao=some ⟨b,off,none⟩∧b<w.heap.size∧∀ j,j<l.length→w.cell? ⟨b,off+j*3,none⟩=some (.int .i64 (mt l j).kind)∧w.cell? ⟨b,off+j*3+1,none⟩=some (.string (mt l j).key)∧w.cell? ⟨b,off+j*3+2,none⟩=some (.string (mt l j).val):=by
 have hs:=mcells_length l
 rcases h with h | ⟨b,off,rfl,h⟩
 ·rw [h] at hs;simp at hs;omega
 ·have hc:∀ j,j<l.length→w.cell? ⟨b,off+j*3,none⟩=some (.int .i64 (mt l j).kind)∧w.cell? ⟨b,off+j*3+1,none⟩=some (.string (mt l j).key)∧w.cell? ⟨b,off+j*3+2,none⟩=some (.string (mt l j).val):=fun j hj=>by
   have:=mcells_at l j hj
   exact ⟨(h (j*3) (by omega)).trans this.1,by rw [Nat.add_assoc];exact (h (j*3+1) (by omega)).trans this.2.1,by rw [Nat.add_assoc];exact (h (j*3+2) (by omega)).trans this.2.2⟩
  exact ⟨b,off,rfl,World.block_lt_of_cell? w ⟨b,off+k*3,none⟩ (hc k hk).1,hc⟩
theorem take_mt {l:List Mt} {k:Nat} (h:k<l.length):l.take (k+1)=l.take k++[mt l k]:=by
 rw [List.take_add_one,List.getElem?_eq_getElem h]
 simp [mt,List.getD,List.getElem?_eq_getElem h]
def find:List (ByteArray×ByteArray)→ByteArray→Option ByteArray
 | [],_=>none
 | x::r,k=>if x.1=k then some x.2 else find r k
theorem find_drop {l:List (ByteArray×ByteArray)} {j:Nat} (h:j<l.length) (key:ByteArray):find (l.drop j) key=if lk l j=key then some (lv l j) else find (l.drop (j+1)) key:=by
 rw [List.drop_eq_getElem_cons h,find]
 simp [lk,lv,List.getD,List.getElem?_eq_getElem h]
def sayM (f:Option ByteArray) (x:Mt):Bool :=
 if x.kind=1 then decide (f=some x.val) else if x.kind=2 then !decide (f=some x.val) else if x.kind=3 then f.isSome else if x.kind=4 then f.isNone else false
def says (s:List (ByteArray×ByteArray)) (l:List Mt):Bool:=l.all fun x=>sayM (find s x.key) x
theorem says_take {s:List (ByteArray×ByteArray)} {l:List Mt} {k:Nat} (h:k<l.length):says s (l.take (k+1))=(says s (l.take k) && sayM (find s (mt l k).key) (mt l k)):=by
 rw [take_mt h]
 simp [says]
theorem says_no {s:List (ByteArray×ByteArray)} {l:List Mt} {k:Nat} (h:k<l.length) (h':sayM (find s (mt l k).key) (mt l k)=false):says s l=false:=by
 unfold says
 rw [List.all_eq_false]
 exact ⟨mt l k,by simp [mt,List.getD,List.getElem?_eq_getElem h],by simpa using h'⟩
open Go.RowKit
structure Hd where
 kind:Int
 n:Int
 range:Int
 word:ByteArray
 ms:List Mt
 bs:List ByteArray
structure Sp where
 ma:Option Addr
 mc:Nat
 ba:Option Addr
 bc:Nat
 ka:Option Addr
 kc:Nat
inductive ET where
 | node (h:Hd) (s:Sp) (kids:List ET):ET
inductive Ex where
 | mk (h:Hd) (kids:List Ex):Ex
theorem ET.ind {P:ET→Prop} (hyp:∀ h s kids,(∀ k∈kids,P k)→P (.node h s kids)):∀ t,P t :=
 fun t=>ET.rec (motive_1:=P) (motive_2:=fun l=>∀ k∈l,P k) (fun h s kids ih=>hyp h s kids ih) (fun k hk=>by cases hk)
  (fun a l ha hl k hk=>by
   rcases List.mem_cons.1 hk with e | e
   ·rw [e];exact ha
   ·exact hl k e) t
theorem Ex.ind {P:Ex→Prop} (hyp:∀ h kids,(∀ k∈kids,P k)→P (.mk h kids)):∀ t,P t :=
 fun t=>Ex.rec (motive_1:=P) (motive_2:=fun l=>∀ k∈l,P k) (fun h kids ih=>hyp h kids ih) (fun k hk=>by cases hk)
  (fun a l ha hl k hk=>by
   rcases List.mem_cons.1 hk with e | e
   ·rw [e];exact ha
   ·exact hl k e) t
def ET.hd:ET→Hd | .node h _ _=>h
def ET.sp:ET→Sp | .node _ s _=>s
def ET.kids:ET→List ET | .node _ _ k=>k
def Ex.hd:Ex→Hd | .mk h _=>h
mutual
/-- the expression that lies there -/
def ET.ex:ET→Ex
 | .node h _ kids=>.mk h (exL kids)
def exL:List ET→List Ex
 | []=>[]
 | k::r=>k.ex::exL r
end
theorem exL_map (l:List ET):exL l=l.map ET.ex:=by
 induction l with
 | nil=>rfl
 | cons k r ih=>simp [exL,ih]
theorem exL_length (l:List ET):(exL l).length=l.length:=by rw [exL_map];simp
def ecell (t:ET):List Value :=
 [.int .i64 t.hd.kind,.int .i64 t.hd.n,.int .i64 t.hd.range,.string t.hd.word,.slice t.sp.ma t.hd.ms.length t.sp.mc,.slice t.sp.ba t.hd.bs.length t.sp.bc,.slice t.sp.ka t.kids.length t.sp.kc]
def ecells:List ET→List Value
 | []=>[]
 | t::r=>ecell t++ecells r
def eval (t:ET):Value :=
 .agg #[.int .i64 t.hd.kind,.int .i64 t.hd.n,.int .i64 t.hd.range,.string t.hd.word,.slice t.sp.ma t.hd.ms.length t.sp.mc,.slice t.sp.ba t.hd.bs.length t.sp.bc,.slice t.sp.ka t.kids.length t.sp.kc]
mutual
/-- it lies there,in this world -/
def ET.In (w:World):ET→Prop
 | .node h s kids=>(Seg w s.ma (mcells h.ms)∧Seg w s.ba (wcells h.bs)∧Seg w s.ka (ecells kids))∧(h.ms.length≤9223372036854775806∧h.bs.length≤9223372036854775806∧kids.length≤9223372036854775806∧h.word.size≤9223372036854775806∧(∀ m∈h.ms,m.key.size≤9223372036854775807∧m.val.size≤9223372036854775807)∧(∀ b∈h.bs,b.size≤9223372036854775807)∧h.bs.length≤s.bc∧∀ m∈h.ms,m.key.size≤140737488355328∧m.val.size≤140737488355328)∧InL w kids
def InL (w:World):List ET→Prop
 | []=>True
 | k::r=>k.In w∧InL w r
end
theorem inL_mem {w:World} {l:List ET} (h:InL w l):∀ k∈l,k.In w:=by
 induction l with
 | nil=>intro k hk;cases hk
 | cons a r ih =>
  simp only [InL] at h
  intro k hk
  rcases List.mem_cons.1 hk with e | e
  ·rw [e];exact h.1
  ·exact ih h.2 k e
theorem inL_of {w:World} {l:List ET} (h:∀ k∈l,k.In w):InL w l:=by
 induction l with
 | nil=>simp [InL]
 | cons a r ih =>
  simp only [InL]
  exact ⟨h a (by simp),ih fun k hk=>h k (by simp [hk])⟩
theorem ET.In.below {w w':World} (hb:Below w.heap.size w w'):∀ t:ET,t.In w→t.In w':=by
 refine ET.ind ?_
 intro h s kids ih hin
 simp only [ET.In] at hin ⊢
 obtain ⟨⟨a,b,c⟩,d,e⟩:=hin
 exact ⟨⟨a.below hb,b.below hb,c.below hb⟩,d,inL_of fun k hk=>ih k hk (inL_mem e k hk)⟩
theorem InL.below {w w':World} (hb:Below w.heap.size w w') {l:List ET} (h:InL w l):InL w' l :=
 inL_of fun k hk=>ET.In.below hb k (inL_mem h k hk)
theorem ecells_length (l:List ET):(ecells l).length=l.length*7:=by
 induction l with
 | nil=>rfl
 | cons s r ih=>simp only [ecells,List.length_append,ih,ecell,List.length_cons,List.length_nil];omega
instance:Inhabited ET:=⟨.node ⟨0,0,0,⟨#[]⟩,[],[]⟩ ⟨none,0,none,0,none,0⟩ []⟩
instance:Inhabited Ex:=⟨.mk ⟨0,0,0,⟨#[]⟩,[],[]⟩ []⟩
theorem ecells_at (l:List ET):∀ k,(hk:k<l.length)→∀ q,q<7→(ecells l)[k*7+q]?=(ecell (l[k]))[q]?:=by
 induction l with
 | nil=>intro k hk;simp at hk
 | cons s r ih =>
  intro k hk q hq
  match k,hk with
  | 0,_ =>
   simp only [ecells,List.getElem_cons_zero]
   rw [List.getElem?_append_left (by simp [ecell];omega)]
   simp
  | k+1,hk =>
   have:=ih k (by simpa using hk) q hq
   simp only [ecells,List.getElem_cons_succ]
   rw [List.getElem?_append_right (by simp [ecell];omega),← this]
   congr 1
   simp [ecell];omega
def Cells7 (w:World) (b o:Nat) (t:ET):Prop :=
 w.cell? ⟨b,o,none⟩=some (.int .i64 t.hd.kind)∧w.cell? ⟨b,o+1,none⟩=some (.int .i64 t.hd.n)∧w.cell? ⟨b,o+2,none⟩=some (.int .i64 t.hd.range)∧w.cell? ⟨b,o+3,none⟩=some (.string t.hd.word)∧w.cell? ⟨b,o+4,none⟩=some (.slice t.sp.ma t.hd.ms.length t.sp.mc)∧w.cell? ⟨b,o+5,none⟩=some (.slice t.sp.ba t.hd.bs.length t.sp.bc)∧w.cell? ⟨b,o+6,none⟩=some (.slice t.sp.ka t.kids.length t.sp.kc)
theorem seg_expr {w:World} {ao:Option Addr} {l:List ET} (h:Seg w ao (ecells l)) {k:Nat} (hk:k<l.length) :
  ∃ b off,ao=some ⟨b,off,none⟩∧b<w.heap.size∧∀ j,(hj:j<l.length)→Cells7 w b (off+j*7) l[j]:=by
 have hs:=ecells_length l
 rcases h with h | ⟨b,off,rfl,h⟩
 ·rw [h] at hs;simp at hs;omega
 ·have hc:∀ j,(hj:j<l.length)→Cells7 w b (off+j*7) l[j]:=fun j hj=>by
   have g:∀ q,q<7→w.cell? ⟨b,off+j*7+q,none⟩=(ecell l[j])[q]?:=fun q hq=>by
    rw [Nat.add_assoc];exact (h (j*7+q) (by omega)).trans (ecells_at l j hj q hq)
   exact ⟨g 0 (by omega),g 1 (by omega),g 2 (by omega),g 3 (by omega),g 4 (by omega),g 5 (by omega),g 6 (by omega)⟩
  exact ⟨b,off,rfl,World.block_lt_of_cell? w ⟨b,off+k*7,none⟩ (hc k hk).1,hc⟩
def lit (l:List UInt8):ByteArray:=⟨l.toArray⟩
def words8:List ByteArray:=[lit [97,118,103],lit [99,111,117,110,116],lit [102,105,114,115,116],lit [108,97,115,116],lit [109,97,120],lit [109,105,110],lit [114,105,115,101],lit [115,117,109]]
def totals4:List ByteArray:=[lit [99,111,117,110,116],lit [109,97,120],lit [109,105,110],lit [115,117,109]]
def signs3:List ByteArray:=[lit [43],lit [45],lit [42]]
def mBad (m:Mt):Int:=if m.kind<1∨4<m.kind then 1 else if (Grain.named m.key && (decide (2<m.kind) || Grain.named m.val))=true then 0 else 7
def msBad:List Mt→Int
 | []=>0
 | m::r=>if mBad m=0 then msBad r else mBad m
def winBad (h:Hd):Int:=if has words8 h.word=false then 7 else if 5<h.ms.length then 5 else if msBad h.ms=0 then (if h.range<1∨100000<h.range then 3 else 0) else msBad h.ms
def allBad (h:Hd):Int:=if has totals4 h.word=false then 7 else if 4<h.bs.length then 5 else if h.bs.all Grain.named=true then 0 else 7
def alone (h:Hd) (k:Nat):Int :=
 if h.kind=1 then (if k=0 then (if h.n<0∨1000000<h.n then 3 else 0) else 5)
 else if h.kind=2 then (if k=0 then winBad h else 5)
 else if h.kind=3 then (if k=1 then allBad h else 5)
 else if h.kind=4 then (if k=2 then (if has signs3 h.word=true then 0 else 7) else 5)
 else 1
mutual
/-- what is wrong,and how many were looked at -/
def wr:Ex→Int→Int→Int×Int
 | .mk h kids,d,n=>if 100<n+1∨20<d then (4,n+1) else if alone h kids.length=0 then wrL kids (d+1) (n+1) else (alone h kids.length,n+1)
def wrL:List Ex→Int→Int→Int×Int
 | [],_,n=>(0,n)
 | k::r,d,n=>if (wr k d n).1=0 then wrL r d (wr k d n).2 else wr k d n
end
mutual
/-- there is a window,or an all -/
def vec:Ex→Bool
 | .mk h kids=>decide (h.kind=2) || decide (h.kind=3) || vecL kids
def vecL:List Ex→Bool
 | []=>false
 | k::r=>vec k || vecL r
end
mutual
/-- all of numbers alone: 8 -/
def typ:Ex→Int
 | .mk h kids=>if h.kind=3∧kids.length=1∧vecL kids=false then 8 else typL kids
def typL:List Ex→Int
 | []=>0
 | k::r=>if typ k=0 then typL r else typ k
end
mutual
/-- how many there are -/
def cnt:Ex→Nat
 | .mk _ kids=>cntL kids+1
def cntL:List Ex→Nat
 | []=>0
 | k::r=>cnt k+cntL r
end
inductive Rt:Ex→Prop where
 | mk (h:Hd) (kids:List Ex) (ha:alone h kids.length=0) (hk:∀ k∈kids,Rt k):Rt (.mk h kids)
end Go.GrainU
namespace Go.Proofs.YtoldmigappbjcaaGreatDoor
open Go.RowKit Go.GrainU
set_option maxHeartbeats 1000000 in
theorem nindex_any (ks:List ByteArray) (x:ByteArray) (bo:Option Addr) (m c:Nat) (w:World) (hb:Seg w bo (wcells ks)) (hm:m=ks.length) (hM:m≤9223372036854775807) :
  Calls Tryz.prog 223 #[.slice bo m c,.string x] w fun e w'=>(∃ i:Int,e=.returned (.int .i64 i)∧decide (0≤i)=has ks x)∧w'=w:=by
 have HM:=hide hm
 clear hm
 go_enter Tryz.func223,Tryz.ntmps223
 go_wp2
 go_loopw [8] (fun i wr=>∃ k:Nat,k≤m∧i=.int .i64 k∧Hid (∀ i,i<k→ks.getD i ⟨#[]⟩≠x)∧wr=w) (fun i _=>m-(intOf i).toNat)
 case atStart=>exact ⟨0,Nat.zero_le _,rfl,fun i h=>by omega,rfl⟩
 case round =>
  obtain ⟨k,hk,rfl,HJ,rfl⟩:=hrel
  by_cases hlt:k<m
  ·have hjl:k<ks.length:=by rw [← HM.out];exact hlt
   obtain ⟨b2,off2,rfl,hbl2,hcell2⟩:=seg_word hb hjl
   obtain ⟨z,hz⟩:∃ z,z=ks.getD k ⟨#[]⟩:=⟨_,rfl⟩
   have e0:wr.cell? ⟨b2,off2+k,none⟩=some (.string z):=by rw [hz];exact hcell2 k hjl
   have Hz:=hide hz
   have Hjl:=hide hjl
   clear hz hcell2 hjl
   by_cases ez:x=z
   ·subst ez
    obtain ⟨v1,v2⟩:=word_self x
    go_wp2
    go_ret
    exact ⟨⟨_,rfl,by rw [has_at Hjl.out Hz.out.symm];simp⟩,rfl⟩
   ·obtain ⟨v1,v2⟩:=word_ne ez
    have HJ':Hid (∀ i,i<k+1→ks.getD i ⟨#[]⟩≠x):=by
     intro i hi'
     rcases (show i<k∨i=k from by omega) with h | h
     ·exact HJ.out i h
     ·subst h;rw [← Hz.out];exact Ne.symm ez
    clear HJ ez
    go_wp2
    go_roundw
    case rel=>exact ⟨k+1,by omega,by go_num,HJ',by first | rfl | trivial⟩
    case measure=>simp [intOf];omega
  ·go_wp2
   go_ret
   exact ⟨⟨_,rfl,by rw [has_none (fun i hi'=>HJ.out i (by have:=HM.out;omega))];decide⟩,rfl⟩
theorem ncont_any (ks:List ByteArray) (x:ByteArray) (bo:Option Addr) (m c:Nat) (w:World) (hb:Seg w bo (wcells ks)) (hm:m=ks.length) (hM:m≤9223372036854775807) :
  Calls Tryz.prog 194 #[.slice bo m c,.string x] w fun e w'=>e=.returned (.bool (has ks x))∧w'=w:=by
 have HM:=hide hm
 clear hm
 obtain ⟨D,hD⟩:∃ D,D=has ks x:=⟨_,rfl⟩
 rw [← hD]
 have HD:=hide hD
 clear hD
 go_enter Tryz.func194,Tryz.ntmps194
 go_wp2_with fail
 refine (nindex_any ks x bo m c w hb HM.out hM).mono ?_
 rintro e w1 ⟨⟨i,rfl,hi⟩,hw⟩
 rw [hw]
 rw [← HD.out] at hi
 go_wp2
 go_ret
 exact ⟨rfl,rfl⟩
open Go.RowKit Go.GrainU
theorem nletter_any (c:Int) (w:World):Calls Tryz.prog 115 #[.int .u8 c] w fun e w'=>e=.returned (.bool (Grain.low c))∧w'=w:=by
 rcases (show c<97∨97≤c from by omega) with h | h
 ·have hd:Grain.low c=false:=by simp [Grain.low];omega
  rw [hd];clear hd
  go_enter Tryz.func115,Tryz.ntmps115
  go_wp2
  go_ret
  exact ⟨rfl,rfl⟩
 ·rcases (show c≤122∨122<c from by omega) with h' | h'
  ·have hd:Grain.low c=true:=by simp [Grain.low];omega
   rw [hd];clear hd
   go_enter Tryz.func115,Tryz.ntmps115
   go_wp2
   go_ret
   exact ⟨ret_bool (by simp),rfl⟩
  ·have hd:Grain.low c=false:=by simp [Grain.low];omega
   rw [hd];clear hd
   go_enter Tryz.func115,Tryz.ntmps115
   go_wp2
   go_ret
   exact ⟨ret_bool (by simpa using h'),rfl⟩
theorem ndigit_any (c:Int) (w:World):Calls Tryz.prog 116 #[.int .u8 c] w fun e w'=>e=.returned (.bool (decide (48≤c) && decide (c≤57)))∧w'=w:=by
 rcases (show c<48∨48≤c from by omega) with h | h
 ·have hd:(decide (48≤c) && decide (c≤57))=false:=by simp;omega
  rw [hd];clear hd
  go_enter Tryz.func116,Tryz.ntmps116
  go_wp2
  go_ret
  exact ⟨rfl,rfl⟩
 ·rcases (show c≤57∨57<c from by omega) with h' | h'
  ·have hd:(decide (48≤c) && decide (c≤57))=true:=by simp;omega
   rw [hd];clear hd
   go_enter Tryz.func116,Tryz.ntmps116
   go_wp2
   go_ret
   exact ⟨ret_bool (by simp),rfl⟩
  ·have hd:(decide (48≤c) && decide (c≤57))=false:=by simp;omega
   rw [hd];clear hd
   go_enter Tryz.func116,Tryz.ntmps116
   go_wp2
   go_ret
   exact ⟨ret_bool (by simpa using h'),rfl⟩
theorem byt_at (s:ByteArray) (k:Nat) (h:k<s.size):(((s[k]'h).toNat:Nat):Int)=Grain.byt s k:=by
 unfold Grain.byt
 have h':k<s.data.size:=h
 simp only [List.getD,Array.getElem?_toList,Array.getElem?_eq_getElem h',Option.getD_some]
 rfl
set_option maxHeartbeats 2000000 in
theorem nnamed_any (s:ByteArray) (w:World) (hm:s.size≤9223372036854775807) :
  Calls Tryz.prog 74 #[.string s] w fun e w'=>e=.returned (.bool (Grain.named s))∧w'=w:=by
 by_cases h0:0<s.size
 ·have e0:((s.size:Int) == 0)=false:=by rw [beq_eq_false_iff_ne];omega
  by_cases h12:s.size≤12
  ·have e1:decide ((12:Int)<(s.size:Int))=false:=by simp;omega
   obtain ⟨c,hc⟩:∃ c,c=Grain.byt s 0:=⟨_,rfl⟩
   have hb:=byt_at s 0 h0
   rw [← hc] at hb
   cases hl:Grain.low c with
   | false =>
    have HF:Hid (Grain.named s=false):=by
     show _=_
     unfold Grain.named
     rw [Grain.fineN_no (k:=0) (by rw [← hc];simp [Grain.badN,hl]) s.size h0]
     rfl
    clear hc
    go_enter Tryz.func74,Tryz.ntmps74
    go_wp2_with fail
    refine (nletter_any c w).mono ?_
    intro e w1 hh
    rw [hh.1,hh.2,hl]
    clear hh
    go_wp2
    go_ret
    exact ⟨ret_bool HF.out.symm,rfl⟩
   | true =>
    have HF:Hid (Grain.fineN s 1=true):=by
     show _=_
     simp [Grain.fineN,Grain.badN,← hc,hl]
    clear hc
    go_enter Tryz.func74,Tryz.ntmps74
    go_wp2_with fail
    refine (nletter_any c w).mono ?_
    intro e w1 hh
    rw [hh.1,hh.2,hl]
    clear hh
    go_wp2
    clear hl hb
    go_loopw [3] (fun i wr=>∃ k:Nat,1≤k∧k≤s.size∧i=.int .i64 k∧Hid (Grain.fineN s k=true)∧wr=w) (fun i _=>s.size-(intOf i).toNat)
    case atStart=>exact ⟨1,Nat.le_refl _,h0,rfl,HF,rfl⟩
    case round =>
     clear HF
     obtain ⟨k,hk1,hk,rfl,HF,rfl⟩:=hrel
     by_cases hlt:k<s.size
     ·obtain ⟨c,hc⟩:∃ c,c=Grain.byt s k:=⟨_,rfl⟩
      have hb:=byt_at s k hlt
      rw [← hc] at hb
      have HB:Hid (Grain.badN k c=true→Grain.named s=false):=by
       intro h
       rw [hc] at h
       unfold Grain.named
       rw [Grain.fineN_no h s.size hlt]
       rfl
      have HN:Hid (Grain.badN k c=false→Grain.fineN s (k+1)=true):=by
       intro h
       show (Grain.fineN s k && !Grain.badN k (Grain.byt s k))=true
       rw [← hc,h,HF.out]
       rfl
      clear hc HF
      cases hl:Grain.low c with
      | true =>
       go_wp2_with fail
       refine (nletter_any c wr).mono ?_
       intro e w1 hh
       rw [hh.1,hh.2,hl]
       clear hh
       go_wp2
       go_roundw
       case rel=>exact ⟨k+1,by omega,by omega,by go_num,HN.out (by simp [Grain.badN,hl]),by first | rfl | trivial⟩
       case measure=>simp [intOf];omega
      | false =>
       cases hd:(decide (48≤c) && decide (c≤57)) with
       | true =>
        go_wp2_with fail
        refine (nletter_any c wr).mono ?_
        intro e w1 hh
        rw [hh.1,hh.2,hl]
        clear hh
        go_wp2_with fail
        refine (ndigit_any c wr).mono ?_
        intro e w1 hh
        rw [hh.1,hh.2,hd]
        clear hh
        go_wp2
        go_roundw
        case rel=>exact ⟨k+1,by omega,by omega,by go_num,HN.out (by simp at hd;simp [Grain.badN,hl];omega),by first | rfl | trivial⟩
        case measure=>simp [intOf];omega
       | false =>
        by_cases g:c=95
        ·subst g
         go_wp2_with fail
         refine (nletter_any 95 wr).mono ?_
         intro e w1 hh
         rw [hh.1,hh.2,hl]
         clear hh
         go_wp2_with fail
         refine (ndigit_any 95 wr).mono ?_
         intro e w1 hh
         rw [hh.1,hh.2,hd]
         clear hh
         go_wp2
         go_roundw
         case rel=>exact ⟨k+1,by omega,by omega,by go_num,HN.out (by simp [Grain.badN];omega),by first | rfl | trivial⟩
         case measure=>simp [intOf];omega
        ·have g':(c != 95)=true:=by simpa using g
         go_wp2_with fail
         refine (nletter_any c wr).mono ?_
         intro e w1 hh
         rw [hh.1,hh.2,hl]
         clear hh
         go_wp2_with fail
         refine (ndigit_any c wr).mono ?_
         intro e w1 hh
         rw [hh.1,hh.2,hd]
         clear hh
         go_wp2
         go_ret
         exact ⟨ret_bool (HB.out (by simp at hd;simp [Grain.badN,hl];omega)).symm,rfl⟩
     ·have he:k=s.size:=by omega
      subst he
      have HE:Hid (Grain.named s=true):=by
       show Grain.named s=_
       unfold Grain.named
       rw [HF.out]
       simp;omega
      clear HF
      go_wp2
      go_ret
      exact ⟨ret_bool HE.out.symm,rfl⟩
  ·have e1:decide ((12:Int)<(s.size:Int))=true:=by simp;omega
   have HF:Hid (Grain.named s=false):=by
    show _=_
    unfold Grain.named
    simp;omega
   go_enter Tryz.func74,Tryz.ntmps74
   go_wp2
   go_ret
   exact ⟨ret_bool HF.out.symm,rfl⟩
 ·have e0:((s.size:Int) == 0)=true:=by rw [beq_iff_eq];omega
  have HF:Hid (Grain.named s=false):=by
   show _=_
   unfold Grain.named
   rw [decide_eq_false h0];simp
  go_enter Tryz.func74,Tryz.ntmps74
  go_wp2
  go_ret
  exact ⟨ret_bool HF.out.symm,rfl⟩
end Go.Proofs.YtoldmigappbjcaaGreatDoor
namespace Go.GrainU
open Go.RowKit
theorem seg_words {w:World} {cs:Array Value} {t:TypeId} {l:List ByteArray} (h:cs.toList=wcells l):Seg (w.alloc (.cells cs t)) (some ⟨w.heap.size,0,none⟩) (wcells l):=by
 rw [← h];exact seg_new w cs t
end Go.GrainU
namespace Go.Proofs.YtoldmigappbjcaaGreatDoor
open Go.RowKit Go.GrainU
theorem pwords_any (w:World):Calls Tryz.prog 26 #[] w fun e w'=>∃ g,e=.returned (.slice (some ⟨g,0,none⟩) 8 8)∧Seg w' (some ⟨g,0,none⟩) (wcells words8)∧Below w.heap.size w w':=by
 go_enter Tryz.func26,Tryz.ntmps26
 go_wp2
 go_ret
 exact ⟨_,rfl,seg_words rfl,(Below.refl _ _).alloc (Nat.le_refl _) _⟩
theorem ptotals_any (w:World):Calls Tryz.prog 202 #[] w fun e w'=>∃ g,e=.returned (.slice (some ⟨g,0,none⟩) 4 4)∧Seg w' (some ⟨g,0,none⟩) (wcells totals4)∧Below w.heap.size w w':=by
 go_enter Tryz.func202,Tryz.ntmps202
 go_wp2
 go_ret
 exact ⟨_,rfl,seg_words rfl,(Below.refl _ _).alloc (Nat.le_refl _) _⟩
theorem poutside_any (n a b:Int) (w:World):Calls Tryz.prog 164 #[.int .i64 n,.int .i64 a,.int .i64 b] w fun e w'=>e=.returned (.int .i64 (if n<a∨b<n then 3 else 0))∧w'=w:=by
 obtain ⟨R,hR⟩:∃ R,R=if n<a∨b<n then (3:Int) else 0:=⟨_,rfl⟩
 rw [← hR]
 have HR:=hide hR
 clear hR
 by_cases h1:n<a
 ·go_enter Tryz.func164,Tryz.ntmps164
  go_wp2
  go_ret
  exact ⟨ret_int (a:=3) (by rw [HR.out,if_pos (.inl (by first | exact h1 | trivial))]),rfl⟩
 ·by_cases h2:b<n
  ·go_enter Tryz.func164,Tryz.ntmps164
   go_wp2
   go_ret
   exact ⟨ret_int (a:=3) (by rw [HR.out,if_pos (.inr (by first | exact h2 | trivial))]),rfl⟩
  ·go_enter Tryz.func164,Tryz.ntmps164
   go_wp2
   go_ret
   exact ⟨ret_int (a:=0) (by rw [HR.out,if_neg (by omega)]),rfl⟩
def kidsK (k:Int):Int×Bool:=if k=1∨k=2 then (0,true) else if k=3 then (1,true) else if k=4 then (2,true) else (0,false)
theorem pkidsOf_any (k:Int) (w:World):Calls Tryz.prog 163 #[.int .i64 k] w fun e w'=>e=.returned (.tuple #[.int .i64 (kidsK k).1,.bool (kidsK k).2])∧w'=w:=by
 obtain ⟨a,ha⟩:∃ a,a=(kidsK k).1:=⟨_,rfl⟩
 obtain ⟨b,hb⟩:∃ b,b=(kidsK k).2:=⟨_,rfl⟩
 rw [← ha,← hb]
 have HA:=hide ha
 have HB:=hide hb
 clear ha hb
 unfold kidsK at HA HB
 by_cases h1:k=1
 ·subst h1
  go_enter Tryz.func163,Tryz.ntmps163
  go_wp2
  go_ret2
  exact ⟨by rw [HA.out,HB.out];rfl,rfl⟩
 by_cases h2:k=2
 ·subst h2
  go_enter Tryz.func163,Tryz.ntmps163
  go_wp2
  go_ret2
  exact ⟨by rw [HA.out,HB.out];rfl,rfl⟩
 by_cases h3:k=3
 ·subst h3
  go_enter Tryz.func163,Tryz.ntmps163
  go_wp2
  go_ret2
  exact ⟨by rw [HA.out,HB.out];rfl,rfl⟩
 by_cases h4:k=4
 ·subst h4
  go_enter Tryz.func163,Tryz.ntmps163
  go_wp2
  go_ret2
  exact ⟨by rw [HA.out,HB.out];rfl,rfl⟩
 have e1:(k == 1)=false:=by simp [h1]
 have e2:(k == 2)=false:=by simp [h2]
 have e3:(k == 3)=false:=by simp [h3]
 have e4:(k == 4)=false:=by simp [h4]
 have HC:Hid (a=0∧b=false):=⟨by rw [HA.out];simp [h1,h2,h3,h4],by rw [HB.out];simp [h1,h2,h3,h4]⟩
 clear HA HB
 go_enter Tryz.func163,Tryz.ntmps163
 go_wp2
 go_ret2
 exact ⟨by rw [HC.out.1,HC.out.2];rfl,rfl⟩
end Go.Proofs.YtoldmigappbjcaaGreatDoor
namespace Go.GrainU
open Go.RowKit
theorem vecL_take {l:List ET} {k:Nat} (h:k<l.length):vecL (exL (l.take (k+1)))=(vecL (exL (l.take k)) || vec (l[k]).ex):=by
 rw [List.take_add_one,List.getElem?_eq_getElem h]
 simp only [Option.toList_some]
 generalize l.take k=a
 induction a with
 | nil=>simp [exL,vecL]
 | cons x r ih=>simp [exL,vecL,ih,Bool.or_assoc]
theorem vecL_at {l:List ET} {k:Nat} (h:k<l.length) (h':vec (l[k]).ex=true):vecL (exL l)=true:=by
 induction l generalizing k with
 | nil=>simp at h
 | cons x r ih =>
  match k,h with
  | 0,_=>simp at h';simp [exL,vecL,h']
  | k+1,h=>simp only [exL,vecL];rw [ih (k:=k) (by simpa using h) (by simpa using h')];simp
theorem vecL_end {l:List ET} {k:Nat} (hk:k=l.length) (h:vecL (exL (l.take k))=false):vecL (exL l)=false:=by
 rw [hk,List.take_length] at h;exact h
theorem typL_at {l:List ET} {k:Nat} (h:k<l.length) (h0:typL (exL (l.take k))=0) (h':typ (l[k]).ex≠0):typL (exL l)=typ (l[k]).ex:=by
 induction l generalizing k with
 | nil=>simp at h
 | cons x r ih =>
  match k,h with
  | 0,_=>simp at h';simp [exL,typL,h']
  | k+1,h =>
   simp only [List.take_succ_cons,exL,typL] at h0
   by_cases e:typ x.ex=0
   ·rw [if_pos e] at h0
    simp only [exL,typL,if_pos e,List.getElem_cons_succ]
    exact ih (by simpa using h) h0 (by simpa using h')
   ·rw [if_neg e] at h0;exact absurd h0 e
theorem typL_take {l:List ET} {k:Nat} (h:k<l.length) (h0:typL (exL (l.take k))=0) (h':typ (l[k]).ex=0):typL (exL (l.take (k+1)))=0:=by
 induction l generalizing k with
 | nil=>simp at h
 | cons x r ih =>
  match k,h with
  | 0,_=>simp at h';simp [exL,typL,h']
  | k+1,h =>
   simp only [List.take_succ_cons,exL,typL] at h0 ⊢
   by_cases e:typ x.ex=0
   ·rw [if_pos e] at h0 ⊢
    exact ih (by simpa using h) h0 (by simpa using h')
   ·rw [if_neg e] at h0;exact absurd h0 e
theorem Cells7.below {w w':World} {b o:Nat} {t:ET} (h:Cells7 w b o t) (hb:Below w.heap.size w w'):Cells7 w' b o t:=by
 have hl:b<w.heap.size:=World.block_lt_of_cell? w ⟨b,o,none⟩ h.1
 unfold Cells7 at h ⊢
 simp only [(bcell hb).1 b _ hl]
 exact h
theorem vec_of {h:Hd} {s:Sp} {kids:List ET}:vec (ET.ex (.node h s kids))=(decide (h.kind=2) || decide (h.kind=3) || vecL (exL kids)):=by simp [ET.ex,vec]
theorem typ_of {h:Hd} {s:Sp} {kids:List ET}:typ (ET.ex (.node h s kids))=if h.kind=3∧kids.length=1∧vecL (exL kids)=false then 8 else typL (exL kids):=by simp [ET.ex,typ,exL_length]
end Go.GrainU
namespace Go.Proofs.YtoldmigappbjcaaGreatDoor
open Go.RowKit Go.GrainU
set_option maxHeartbeats 1000000 in
theorem vindex_any (kids:List ET) (ih:∀ t∈kids,∀ w:World,t.In w→Calls Tryz.prog 150 #[eval t] w fun e w'=>e=.returned (.bool (vec t.ex))∧Below w.heap.size w w')
  (ka:Option Addr) (kl kc:Nat) (w:World) (hK:Seg w ka (ecells kids)) (hkl:kl=kids.length) (lK:kl≤9223372036854775806) (hL:InL w kids) :
  Calls Tryz.prog 149 #[.slice ka kl kc,.func (.func 150) #[] #[]] w fun e w'=>(∃ i:Int,e=.returned (.int .i64 i)∧decide (0≤i)=vecL (exL kids))∧Below w.heap.size w w':=by
 have HK:=hide hkl
 clear hkl
 go_enter Tryz.func149,Tryz.ntmps149
 go_wp2
 go_loopw [8] (fun i wr=>∃ k:Nat,k≤kl∧i=.int .i64 k∧Hid (vecL (exL (kids.take k))=false)∧Below w.heap.size w wr) (fun i _=>kl-(intOf i).toNat)
 case atStart=>exact ⟨0,Nat.zero_le _,rfl,by show _=_;simp [exL,vecL],Below.refl _ _⟩
 case round =>
  obtain ⟨k,hk,rfl,HJ,bel⟩:=hrel
  by_cases hlt:k<kl
  ·have hkl:k<kids.length:=by rw [← HK.out];exact hlt
   obtain ⟨b,off,rfl,hbl,hcell⟩:=seg_expr hK hkl
   obtain ⟨t,ht⟩:∃ t,t=kids[k]:=⟨_,rfl⟩
   have hc:=(hcell k hkl).below bel
   rw [← ht] at hc
   have hmem:t∈kids:=by rw [ht];exact List.getElem_mem hkl
   have HT:=hide (inL_mem hL t hmem)
   have Ht:=hide ht
   clear ht hcell hK
   obtain ⟨c0,c1,c2,c3,c4,c5,c6⟩:=hc
   go_wp2_with fail
   refine (ih t hmem _ (ET.In.below bel t HT.out)).mono ?_
   rintro e w1 ⟨rfl,b1⟩
   have bel1:Below w.heap.size w w1:=bel.trans (b1.mono bel.size)
   obtain ⟨D,hD⟩:∃ D,D=vec t.ex:=⟨_,rfl⟩
   rw [← hD]
   have HD:=hide hD
   clear hD
   cases D with
   | true =>
    go_wp2
    go_ret
    exact ⟨⟨k,rfl,by rw [vecL_at hkl (by rw [← Ht.out];exact HD.out.symm)];simp⟩,bel1⟩
   | false =>
    have HJ':Hid (vecL (exL (kids.take (k+1)))=false):=by show _=_;rw [vecL_take hkl,HJ.out,← Ht.out,← HD.out];rfl
    go_wp2
    go_roundw
    case rel=>exact ⟨k+1,by omega,by go_num,HJ',bel1⟩
    case measure=>simp [intOf];omega
  ·go_wp2
   go_ret
   exact ⟨⟨-1,rfl,by rw [vecL_end (by have:=HK.out;omega) HJ.out];decide⟩,bel⟩
theorem vcont_any (kids:List ET) (ih:∀ t∈kids,∀ w:World,t.In w→Calls Tryz.prog 150 #[eval t] w fun e w'=>e=.returned (.bool (vec t.ex))∧Below w.heap.size w w')
  (ka:Option Addr) (kl kc:Nat) (w:World) (hK:Seg w ka (ecells kids)) (hkl:kl=kids.length) (lK:kl≤9223372036854775806) (hL:InL w kids) :
  Calls Tryz.prog 107 #[.slice ka kl kc,.func (.func 150) #[] #[]] w fun e w'=>e=.returned (.bool (vecL (exL kids)))∧Below w.heap.size w w':=by
 have HK:=hide hkl
 clear hkl
 obtain ⟨D,hD⟩:∃ D,D=vecL (exL kids):=⟨_,rfl⟩
 rw [← hD]
 have HD:=hide hD
 clear hD
 go_enter Tryz.func107,Tryz.ntmps107
 go_wp2_with fail
 refine (vindex_any kids ih ka kl kc w hK HK.out lK hL).mono ?_
 rintro e w1 ⟨⟨i,rfl,hi⟩,b1⟩
 rw [← HD.out] at hi
 go_wp2
 go_ret
 exact ⟨rfl,b1⟩
set_option maxHeartbeats 1000000 in
theorem pvector_any:∀ t:ET,∀ w:World,t.In w →
  Calls Tryz.prog 150 #[eval t] w fun e w'=>e=.returned (.bool (vec t.ex))∧Below w.heap.size w w':=by
 refine ET.ind ?_
 intro h s kids ih w hin
 obtain ⟨kd,n,rg,wd,ms,bs⟩:=h
 obtain ⟨ma,mc,ba,bc,ka,kc⟩:=s
 simp only [ET.In] at hin
 obtain ⟨⟨_,_,hK⟩,⟨_,_,lK,_⟩,hL⟩:=hin
 rw [vec_of]
 show Calls Tryz.prog _ #[.agg #[.int .i64 kd,.int .i64 n,.int .i64 rg,.string wd,.slice ma ms.length mc,.slice ba bs.length bc,.slice ka kids.length kc]] w _
 generalize ms.length=ml
 generalize bs.length=bl
 obtain ⟨kl,hkl⟩:∃ x,x=kids.length:=⟨_,rfl⟩
 rw [← hkl] at lK ⊢
 have HK:=hide hkl
 clear hkl
 by_cases h2:kd=2
 ·subst h2
  go_enter Tryz.func150,Tryz.ntmps150
  go_wp2_with fail
  go_ret
  exact ⟨by simp,(Below.refl _ _).alloc (Nat.le_refl _) _⟩
 by_cases h3:kd=3
 ·subst h3
  go_enter Tryz.func150,Tryz.ntmps150
  go_wp2_with fail
  go_ret
  exact ⟨by simp,(Below.refl _ _).alloc (Nat.le_refl _) _⟩
 have HV:Hid ((decide (kd=2) || decide (kd=3) || vecL (exL kids))=vecL (exL kids)):=by show _=_;simp [h2,h3]
 have e2:(kd == 2)=false:=by simp [h2]
 have e3:(kd == 3)=false:=by simp [h3]
 go_enter Tryz.func150,Tryz.ntmps150
 go_wp2_with fail
 have bel:Below w.heap.size w (w.alloc (.cells #[.int .i64 kd,.int .i64 n,.int .i64 rg,.string wd,.slice ma ml mc,.slice ba bl bc,.slice ka kl kc] 41)):=(Below.refl _ _).alloc (Nat.le_refl _) _
 refine (vcont_any kids ih ka kl kc _ (hK.below bel) HK.out lK (hL.below bel)).mono ?_
 rintro e w1 ⟨rfl,b1⟩
 go_wp2
 go_ret
 exact ⟨ret_bool (a:=vecL (exL kids)) HV.out.symm,bel.trans (b1.mono bel.size)⟩
end Go.Proofs.YtoldmigappbjcaaGreatDoor
namespace Go.GrainU
open Go.RowKit
theorem vecL_one {l:List ET} (h:l.length=1) (h0:0<l.length):vecL (exL l)=vec (l[0]).ex:=by
 match l,h with
 | [x],_=>simp [exL,vecL]
theorem typL_end {l:List ET} {k:Nat} (hk:k=l.length) (h:typL (exL (l.take k))=0):typL (exL l)=0:=by
 rw [hk,List.take_length] at h;exact h
theorem seven_cells {w:World} {B:Nat} {x0 x1 x2 x3 x4 x5 x6:Value} {t:TypeId} (h:w.heap[B]?=some (.cells #[x0,x1,x2,x3,x4,x5,x6] t (0,0))) :
  w.cell? ⟨B,0,none⟩=some x0∧w.cell? ⟨B,1,none⟩=some x1∧w.cell? ⟨B,2,none⟩=some x2∧w.cell? ⟨B,3,none⟩=some x3∧w.cell? ⟨B,4,none⟩=some x4∧w.cell? ⟨B,5,none⟩=some x5∧w.cell? ⟨B,6,none⟩=some x6:=by
 simp [World.cell?,h]
end Go.GrainU
namespace Go.Proofs.YtoldmigappbjcaaGreatDoor
open Go.RowKit Go.GrainU
set_option maxHeartbeats 2000000 in
theorem ptyped_any:∀ t:ET,∀ w:World,t.In w →
  Calls Tryz.prog 109 #[eval t] w fun e w'=>e=.returned (.int .i64 (typ t.ex))∧Below w.heap.size w w':=by
 refine ET.ind ?_
 intro h s kids ih w hin
 obtain ⟨kd,n,rg,wd,ms,bs⟩:=h
 obtain ⟨ma,mc,ba,bc,ka,kc⟩:=s
 simp only [ET.In] at hin
 obtain ⟨⟨_,_,hK⟩,⟨_,_,lK,_⟩,hL⟩:=hin
 rw [typ_of]
 show Calls Tryz.prog _ #[.agg #[.int .i64 kd,.int .i64 n,.int .i64 rg,.string wd,.slice ma ms.length mc,.slice ba bs.length bc,.slice ka kids.length kc]] w _
 generalize ms.length=ml
 generalize bs.length=bl
 obtain ⟨kl,hkl⟩:∃ x,x=kids.length:=⟨_,rfl⟩
 rw [← hkl] at lK ⊢
 have HK:=hide hkl
 clear hkl
 have bel0:Below w.heap.size w (w.alloc (.cells #[.int .i64 kd,.int .i64 n,.int .i64 rg,.string wd,.slice ma ml mc,.slice ba bl bc,.slice ka kl kc] 41)):=(Below.refl _ _).alloc (Nat.le_refl _) _
 have F0:(w.alloc (.cells #[.int .i64 kd,.int .i64 n,.int .i64 rg,.string wd,.slice ma ml mc,.slice ba bl bc,.slice ka kl kc] 41)).heap[w.heap.size]?=some (.cells #[.int .i64 kd,.int .i64 n,.int .i64 rg,.string wd,.slice ma ml mc,.slice ba bl bc,.slice ka kl kc] 41 (0,0)):=heap_alloc_new w _
 have HF0:=hide F0
 have HB0:=hide bel0
 clear F0 bel0
 obtain ⟨R,hR⟩:∃ R,R=if kd=3∧kl=1∧vecL (exL kids)=false then (8:Int) else typL (exL kids):=⟨_,rfl⟩
 rw [← hR]
 have HR:=hide hR
 clear hR
 by_cases hA:kd=3∧kl=1
 ·obtain ⟨rfl,rfl⟩:=hA
  have h0:0<kids.length:=by have:=HK.out;omega
  have HO:Hid (vecL (exL kids)=vec (kids[0]).ex):=vecL_one HK.out.symm h0
  obtain ⟨b0,off0,rfl,hbl0,hcell0⟩:=seg_expr hK h0
  obtain ⟨t0,ht0⟩:∃ t,t=kids[0]:=⟨_,rfl⟩
  have hc:=(hcell0 0 h0).below HB0.out
  rw [← ht0] at hc
  simp only [Nat.zero_mul,Nat.add_zero] at hc
  have hmem0:t0∈kids:=by rw [ht0];exact List.getElem_mem h0
  have HT0:=hide (inL_mem hL t0 hmem0)
  have Ht0:=hide ht0
  clear ht0 hcell0
  obtain ⟨c0,c1,c2,c3,c4,c5,c6⟩:=hc
  go_enter Tryz.func109,Tryz.ntmps109
  go_wp2_with fail
  refine (pvector_any t0 _ (ET.In.below HB0.out t0 HT0.out)).mono ?_
  rintro e w2 ⟨rfl,b2⟩
  have belA:Below w.heap.size w w2:=HB0.out.trans (b2.mono HB0.out.size)
  have F2:w2.heap[w.heap.size]?=_:=below_block b2 HF0.out
  obtain ⟨p0,p1,p2,p3,p4,p5,p6⟩:=seven_cells F2
  clear F2 b2 c0 c1 c2 c3 c4 c5 c6
  obtain ⟨V,hV⟩:∃ V,V=vec t0.ex:=⟨_,rfl⟩
  rw [← hV]
  have HVe:=hide hV
  clear hV
  cases V with
  | false =>
   go_wp2
   go_ret
   exact ⟨ret_int (a:=8) (by rw [HR.out,if_pos ⟨by trivial,by trivial,by rw [HO.out,← Ht0.out,← HVe.out]⟩]),belA⟩
  | true =>
   have HV:Hid (R=typL (exL kids)):=by
    show _=_
    rw [HR.out,if_neg]
    intro hh
    rw [HO.out,← Ht0.out,← HVe.out] at hh
    simp at hh
   go_wp2
   go_loopw [26] (fun i wr=>∃ k:Nat,k≤1∧i=.int .i64 k∧Hid (typL (exL (kids.take k))=0)∧Below w.heap.size w wr) (fun i _=>1-(intOf i).toNat)
   case atStart=>exact ⟨0,Nat.zero_le _,rfl,by show _=_;simp [exL,typL],belA⟩
   case round =>
    obtain ⟨k,hk,rfl,HJ,bel⟩:=hrel
    by_cases hlt:k<1
    ·have hkl:k<kids.length:=by rw [← HK.out];exact hlt
     obtain ⟨b,off,hao,hbl,hcell⟩:=seg_expr hK hkl
     obtain ⟨rfl,rfl⟩:b=b0∧off=off0:=by simpa [eq_comm] using hao
     obtain ⟨t,ht⟩:∃ t,t=kids[k]:=⟨_,rfl⟩
     have hc:=(hcell k hkl).below bel
     rw [← ht] at hc
     have hmem:t∈kids:=by rw [ht];exact List.getElem_mem hkl
     have HT:=hide (inL_mem hL t hmem)
     have Ht:=hide ht
     clear ht hcell hK
     obtain ⟨c0,c1,c2,c3,c4,c5,c6⟩:=hc
     go_wp2_with fail
     have belW:Below w.heap.size w (wr.alloc (.cells #[.int .i64 t.hd.kind,.int .i64 t.hd.n,.int .i64 t.hd.range,.string t.hd.word,.slice t.sp.ma t.hd.ms.length t.sp.mc,.slice t.sp.ba t.hd.bs.length t.sp.bc,.slice t.sp.ka t.kids.length t.sp.kc] 41)):=bel.alloc bel.size _
     refine (ih t hmem _ (ET.In.below belW t HT.out)).mono ?_
     rintro e w1 ⟨rfl,b1⟩
     have bel1:Below w.heap.size w w1:=belW.trans (b1.mono belW.size)
     obtain ⟨D,hD⟩:∃ D,D=typ t.ex:=⟨_,rfl⟩
     rw [← hD]
     have HD:=hide hD
     clear hD
     by_cases hD0:D=0
     ·have HJ':Hid (typL (exL (kids.take (k+1)))=0):=typL_take hkl HJ.out (by rw [← Ht.out,← HD.out];exact hD0)
      have eD:(D == 0)=true:=by simp [hD0]
      clear hD0
      go_wp2
      go_roundw
      case rel=>exact ⟨k+1,by omega,by go_num,HJ',bel1⟩
      case measure=>simp [intOf];omega
     ·have eD:(D == 0)=false:=by simp [hD0]
      go_wp2
      go_ret
      exact ⟨ret_int (a:=D) (by rw [HV.out,typL_at hkl HJ.out (by rw [← Ht.out,← HD.out];exact hD0),← Ht.out];exact HD.out),bel1⟩
    ·go_wp2
     go_ret
     exact ⟨ret_int (a:=0) (by rw [HV.out,typL_end (by have:=HK.out;omega) HJ.out]),bel⟩
 ·have HV:Hid (R=typL (exL kids)):=by
   show _=_
   rw [HR.out,if_neg]
   intro hh
   exact hA ⟨hh.1,hh.2.1⟩
  have bel0:=HB0.out
  by_cases h3:kd=3
  ·subst h3
   have e1:((kl:Int) == 1)=false:=by rw [beq_eq_false_iff_ne];intro h;exact hA ⟨rfl,by omega⟩
   clear hA
   go_enter Tryz.func109,Tryz.ntmps109
   go_wp2
   go_loopw [26] (fun i wr=>∃ k:Nat,k≤kl∧i=.int .i64 k∧Hid (typL (exL (kids.take k))=0)∧Below w.heap.size w wr) (fun i _=>kl-(intOf i).toNat)
   case atStart=>exact ⟨0,Nat.zero_le _,rfl,by show _=_;simp [exL,typL],bel0⟩
   case round =>
    obtain ⟨k,hk,rfl,HJ,bel⟩:=hrel
    by_cases hlt:k<kl
    ·have hkl:k<kids.length:=by rw [← HK.out];exact hlt
     obtain ⟨b,off,rfl,hbl,hcell⟩:=seg_expr hK hkl
     obtain ⟨t,ht⟩:∃ t,t=kids[k]:=⟨_,rfl⟩
     have hc:=(hcell k hkl).below bel
     rw [← ht] at hc
     have hmem:t∈kids:=by rw [ht];exact List.getElem_mem hkl
     have HT:=hide (inL_mem hL t hmem)
     have Ht:=hide ht
     clear ht hcell hK
     obtain ⟨c0,c1,c2,c3,c4,c5,c6⟩:=hc
     go_wp2_with fail
     have belW:Below w.heap.size w (wr.alloc (.cells #[.int .i64 t.hd.kind,.int .i64 t.hd.n,.int .i64 t.hd.range,.string t.hd.word,.slice t.sp.ma t.hd.ms.length t.sp.mc,.slice t.sp.ba t.hd.bs.length t.sp.bc,.slice t.sp.ka t.kids.length t.sp.kc] 41)):=bel.alloc bel.size _
     refine (ih t hmem _ (ET.In.below belW t HT.out)).mono ?_
     rintro e w1 ⟨rfl,b1⟩
     have bel1:Below w.heap.size w w1:=belW.trans (b1.mono belW.size)
     obtain ⟨D,hD⟩:∃ D,D=typ t.ex:=⟨_,rfl⟩
     rw [← hD]
     have HD:=hide hD
     clear hD
     by_cases hD0:D=0
     ·have HJ':Hid (typL (exL (kids.take (k+1)))=0):=typL_take hkl HJ.out (by rw [← Ht.out,← HD.out];exact hD0)
      have eD:(D == 0)=true:=by simp [hD0]
      clear hD0
      go_wp2
      go_roundw
      case rel=>exact ⟨k+1,by omega,by go_num,HJ',bel1⟩
      case measure=>simp [intOf];omega
     ·have eD:(D == 0)=false:=by simp [hD0]
      go_wp2
      go_ret
      exact ⟨ret_int (a:=D) (by rw [HV.out,typL_at hkl HJ.out (by rw [← Ht.out,← HD.out];exact hD0),← Ht.out];exact HD.out),bel1⟩
    ·go_wp2
     go_ret
     exact ⟨ret_int (a:=0) (by rw [HV.out,typL_end (by have:=HK.out;omega) HJ.out]),bel⟩
  ·have e3:(kd == 3)=false:=by simp [h3]
   clear hA
   go_enter Tryz.func109,Tryz.ntmps109
   go_wp2
   go_loopw [26] (fun i wr=>∃ k:Nat,k≤kl∧i=.int .i64 k∧Hid (typL (exL (kids.take k))=0)∧Below w.heap.size w wr) (fun i _=>kl-(intOf i).toNat)
   case atStart=>exact ⟨0,Nat.zero_le _,rfl,by show _=_;simp [exL,typL],bel0⟩
   case round =>
    obtain ⟨k,hk,rfl,HJ,bel⟩:=hrel
    by_cases hlt:k<kl
    ·have hkl:k<kids.length:=by rw [← HK.out];exact hlt
     obtain ⟨b,off,rfl,hbl,hcell⟩:=seg_expr hK hkl
     obtain ⟨t,ht⟩:∃ t,t=kids[k]:=⟨_,rfl⟩
     have hc:=(hcell k hkl).below bel
     rw [← ht] at hc
     have hmem:t∈kids:=by rw [ht];exact List.getElem_mem hkl
     have HT:=hide (inL_mem hL t hmem)
     have Ht:=hide ht
     clear ht hcell hK
     obtain ⟨c0,c1,c2,c3,c4,c5,c6⟩:=hc
     go_wp2_with fail
     have belW:Below w.heap.size w (wr.alloc (.cells #[.int .i64 t.hd.kind,.int .i64 t.hd.n,.int .i64 t.hd.range,.string t.hd.word,.slice t.sp.ma t.hd.ms.length t.sp.mc,.slice t.sp.ba t.hd.bs.length t.sp.bc,.slice t.sp.ka t.kids.length t.sp.kc] 41)):=bel.alloc bel.size _
     refine (ih t hmem _ (ET.In.below belW t HT.out)).mono ?_
     rintro e w1 ⟨rfl,b1⟩
     have bel1:Below w.heap.size w w1:=belW.trans (b1.mono belW.size)
     obtain ⟨D,hD⟩:∃ D,D=typ t.ex:=⟨_,rfl⟩
     rw [← hD]
     have HD:=hide hD
     clear hD
     by_cases hD0:D=0
     ·have HJ':Hid (typL (exL (kids.take (k+1)))=0):=typL_take hkl HJ.out (by rw [← Ht.out,← HD.out];exact hD0)
      have eD:(D == 0)=true:=by simp [hD0]
      clear hD0
      go_wp2
      go_roundw
      case rel=>exact ⟨k+1,by omega,by go_num,HJ',bel1⟩
      case measure=>simp [intOf];omega
     ·have eD:(D == 0)=false:=by simp [hD0]
      go_wp2
      go_ret
      exact ⟨ret_int (a:=D) (by rw [HV.out,typL_at hkl HJ.out (by rw [← Ht.out,← HD.out];exact hD0),← Ht.out];exact HD.out),bel1⟩
    ·go_wp2
     go_ret
     exact ⟨ret_int (a:=0) (by rw [HV.out,typL_end (by have:=HK.out;omega) HJ.out]),bel⟩
end Go.Proofs.YtoldmigappbjcaaGreatDoor
namespace Go.GrainU
open Go.RowKit
def only (l:List (ByteArray×ByteArray)) (ks:List ByteArray):List (ByteArray×ByteArray):=l.filter fun x=>has ks x.1
theorem only_take {l:List (ByteArray×ByteArray)} {ks:List ByteArray} {k:Nat} (h:k<l.length):only (l.take (k+1)) ks=if has ks (lk l k)=true then only (l.take k) ks++[(lk l k,lv l k)] else only (l.take k) ks:=by
 rw [take_lab h]
 unfold only
 rw [List.filter_append]
 cases hh:has ks (lk l k) <;> simp [hh]
theorem only_len (l:List (ByteArray×ByteArray)) (ks:List ByteArray):(only l ks).length≤l.length:=List.length_filter_le _ _
theorem own_llen {w:World} {base e N:Nat} {v:Value} {l:List (ByteArray×ByteArray)} (h:w.ownsRow base e 2 v N (lcells l)):N=l.length:=by
 have:=h.1;rw [lcells_length] at this;omega
end Go.GrainU
namespace Go.Proofs.YtoldmigappbjcaaGreatDoor
open Go.RowKit Go.GrainU
theorem Tryz.infoLabel:(Tryz.prog.info? 88).map (fun i=>(i.zero,i.size,i.bytes))=some (some (.agg #[.string ⟨#[]⟩,.string ⟨#[]⟩]),2,32):=by kernel_rfl
open Go.RowKit Go.GrainU
theorem nonly1_any (ks:List ByteArray) (x y:ByteArray) (B:Nat) (bo:Option Addr) (m c:Nat) (w:World) (hb:Seg w bo (wcells ks)) (hB:w.cell? ⟨B,0,none⟩=some (.slice bo m c)) (hm:m=ks.length) (hM:m≤9223372036854775807) :
  Calls Tryz.prog 193 #[.agg #[.string x,.string y],.pointer (some ⟨B,0,none⟩)] w fun e w'=>e=.returned (.bool (has ks x))∧w'=w.alloc (.cells #[.string x,.string y] 88):=by
 have hl:B<w.heap.size:=World.block_lt_of_cell? w _ hB
 have bel:Below w.heap.size w (w.alloc (.cells #[.string x,.string y] 88)):=(Below.refl _ _).alloc (Nat.le_refl _) _
 have hbV:=hb.below bel
 have HM:=hide hm
 clear hm
 obtain ⟨D,hD⟩:∃ D,D=has ks x:=⟨_,rfl⟩
 rw [← hD]
 have HD:=hide hD
 clear hD
 go_enter Tryz.func193,Tryz.ntmps193
 go_wp2_with fail
 refine (ncont_any ks x bo m c _ hbV HM.out hM).mono ?_
 rintro e w1 ⟨rfl,hw⟩
 rw [hw]
 rw [← HD.out]
 go_wp2
 go_ret
 exact ⟨rfl,rfl⟩
set_option maxHeartbeats 2000000 in
theorem nkept_any (l:List (ByteArray×ByteArray)) (ks:List ByteArray) (B:Nat) (ao bo:Option Addr) (n cap m c:Nat) (w:World) (hs:Seg w ao (lcells l)) (hn:n=l.length) (hL:n*32≤140737488351232) (hb:Seg w bo (wcells ks)) (hB:w.cell? ⟨B,0,none⟩=some (.slice bo m c)) (hm:m=ks.length) (hM:m≤9223372036854775807) :
  Calls Tryz.prog 192 #[.slice ao n cap,.func (.func 193) #[] #[.pointer (some ⟨B,0,none⟩)]] w fun e w'=>∃ co N d,e=.returned (.slice co N d)∧w'.ownsRow w.heap.size 88 2 (.slice co N d) N (lcells (only l ks))∧Below w.heap.size w w':=by
 obtain ⟨i0,hi,hz0,hz1,hz2⟩:=info_parts Tryz.infoLabel
 have hl:B<w.heap.size:=World.block_lt_of_cell? w _ hB
 have HN:=hide hn
 have HM:=hide hm
 clear hn hm
 go_enter Tryz.func192,Tryz.ntmps192
 go_wp2
 go_loopw [5,10] (fun out i wr=>∃ (k N d:Nat) (co:Option Addr),k≤n∧i=.int .i64 k∧out=.slice co N d∧N≤k∧wr.ownsRow w.heap.size 88 2 (.slice co N d) N (lcells (only (l.take k) ks))∧Below w.heap.size w wr) (fun _ i _=>n-(intOf i).toNat)
 case atStart=>exact ⟨0,0,0,none,Nat.zero_le _,rfl,rfl,Nat.le_refl _,World.ownsRow_nil _ _ _ _,Below.refl _ _⟩
 case round =>
  obtain ⟨k,N,d,co,hk,rfl,rfl,hNk,own,bel⟩:=hrel
  have hsz:=bel.size
  by_cases hlt:k<n
  ·have hkl:k<l.length:=by rw [← HN.out];exact hlt
   obtain ⟨b,off,rfl,hbl,hcell⟩:=seg_label hs hkl
   obtain ⟨x,hx⟩:∃ x,x=lk l k:=⟨_,rfl⟩
   obtain ⟨y,hy⟩:∃ y,y=lv l k:=⟨_,rfl⟩
   have c0:wr.cell? ⟨b,off+k*2,none⟩=some (.string x):=by rw [hx];exact (bel.cell (by exact hbl)).trans (hcell k hkl).1
   have c1:wr.cell? ⟨b,off+k*2+1,none⟩=some (.string y):=by rw [hy];exact (bel.cell (by exact hbl)).trans (hcell k hkl).2
   have HU:Hid (only (l.take (k+1)) ks=if has ks x=true then only (l.take k) ks++[(x,y)] else only (l.take k) ks):=by rw [hx,hy];exact only_take hkl
   clear hx hy hcell hkl
   obtain ⟨V,hV⟩:∃ V,V=wr.alloc (.cells #[.string x,.string y] 88):=⟨_,rfl⟩
   obtain ⟨X,hX⟩:∃ X,X=wr.heap.size:=⟨_,rfl⟩
   have F1:V.heap[X]?=some (.cells #[.string x,.string y] 88 (0,0)):=by rw [hV,hX];exact heap_alloc_new wr _
   have own1:V.ownsRow w.heap.size 88 2 (.slice co N d) N (lcells (only (l.take k) ks)):=by rw [hV];exact own.alloc _
   have bel1:Below w.heap.size w V:=by rw [hV];exact bel.alloc hsz _
   have hs1:=bel1.size
   have cB:V.cell? ⟨B,0,none⟩=some (.slice bo m c):=(bel1.cell (by exact hl)).trans hB
   have hbV:=hb.below bel1
   have HV:=hide hV
   have HX:=hide hX
   clear hV own
   go_wp2_with fail
   rw [← HV.out,← HX.out]
   refine (nonly1_any ks x y B bo m c V hbV cB HM.out hM).mono ?_
   rintro e w1 ⟨rfl,hw1⟩
   have F2:w1.heap[X]?=some (.cells #[.string x,.string y] 88 (0,0)):=by
    rw [hw1,Below.heap_alloc _ _ _ (lt_of_block F1)];exact F1
   have own2:w1.ownsRow w.heap.size 88 2 (.slice co N d) N (lcells (only (l.take k) ks)):=by rw [hw1];exact own1.alloc _
   have bel2:Below w.heap.size w w1:=by rw [hw1];exact bel1.alloc hs1 _
   have hs2:=bel2.size
   obtain ⟨p0,p1,_,_⟩:=two_cells F2
   clear hw1 own1 bel1 bel HV HX F1 hX cB hbV c0 c1 hsz hs1
   cases hh:has ks x with
   | true =>
    have HE:Hid (only (l.take (k+1)) ks=only (l.take k) ks++[(x,y)]):=by
     show _=_
     rw [HU.out,if_pos hh]
    clear HU hh
    go_wp2_with (at_builtin;refine wpList_append_lies _ rfl _ _ 32 rfl w.heap.size 88 i0 (.agg #[.string ⟨#[]⟩,.string ⟨#[]⟩]) 2 32 Tryz.underlying32 hi hz0 hz1 hz2 rfl (by decide) _ _ _ rfl (own2.alloc _) ⟨w1.heap.size,0,none⟩ 1 1 [.string x,.string y] rfl rfl (news_two rfl _ _ _) (by simp [Value.oneCell']) (by decide) (by unfold maxLen;omega) (by omega) (by simp;omega) (w1.heap.size+1) (by simp) ?_)
    intro g' cp' w5 own5 gr5 hat5 hlt5
    have own6:w5.ownsRow w.heap.size 88 2 (.slice (some ⟨g',0,none⟩) (N+1) cp') (N+1) (lcells (only (l.take (k+1)) ks)):=by
     rw [HE.out,lcells_append];exact own5
    have bel5:Below w.heap.size w w5:=(bel2.alloc hs2 _).grown gr5 (by simp;omega) (fun j hj=>(own2.lt j hj).1)
    clear own5 gr5 hat5 hlt5 own2 HE
    go_wp2
    go_roundw
    case rel=>exact ⟨k+1,N+1,cp',_,by omega,by go_num,rfl,by omega,own6,bel5⟩
    case measure=>simp [intOf];omega
   | false =>
    have HE:Hid (only (l.take (k+1)) ks=only (l.take k) ks):=by
     show _=_
     rw [HU.out,hh,if_neg (by decide)]
    rw [← HE.out] at own2
    clear HU HE hh
    go_wp2
    go_roundw
    case rel=>exact ⟨k+1,N,d,co,by omega,by go_num,rfl,by omega,own2,bel2⟩
    case measure=>simp [intOf];omega
  ·have he:k=n:=by omega
   subst he
   have HT:=hide (List.take_of_length_le (i:=k) (l:=l) (by rw [← HN.out];omega))
   rw [HT.out] at own
   clear HT HN
   go_wp2
   go_ret
   exact ⟨co,N,d,rfl,own,bel⟩
end Go.Proofs.YtoldmigappbjcaaGreatDoor
namespace Go.GrainU
open Go.RowKit
def IsAt (s:List (ByteArray×ByteArray)) (key:ByteArray) (i:Int):Prop:=(i = -1∧find s key=none)∨∃ k:Nat,k<s.length∧i=k∧find s key=some (lv s k)
end Go.GrainU
namespace Go.Proofs.YtoldmigappbjcaaGreatDoor
open Go.RowKit Go.GrainU
theorem nget1_any (x y key:ByteArray) (B:Nat) (w:World) (hB:w.cell? ⟨B,0,none⟩=some (.string key)) :
  Calls Tryz.prog 226 #[.agg #[.string x,.string y],.pointer (some ⟨B,0,none⟩)] w fun e w'=>e=.returned (.bool (decide (x=key)))∧Below w.heap.size w w':=by
 have hl:B<w.heap.size:=World.block_lt_of_cell? w _ hB
 have bel:Below w.heap.size w (w.alloc (.cells #[.string x,.string y] 88)):=(Below.refl _ _).alloc (Nat.le_refl _) _
 have hW:=word_eq x key
 have hW':(x == key)=decide (x=key):=by rw [Go.beq_toListBytes];exact hW
 generalize decide (x=key)=D at hW hW' ⊢
 go_enter Tryz.func226,Tryz.ntmps226
 go_wp2
 go_ret
 exact ⟨rfl,bel⟩
set_option maxHeartbeats 1000000 in
theorem nidx_any (s:List (ByteArray×ByteArray)) (key:ByteArray) (B:Nat) (ao:Option Addr) (n c:Nat) (w:World) (ha:Seg w ao (lcells s)) (hB:w.cell? ⟨B,0,none⟩=some (.string key)) (hn:n=s.length) (hc:n≤9223372036854775807) :
  Calls Tryz.prog 225 #[.slice ao n c,.func (.func 226) #[] #[.pointer (some ⟨B,0,none⟩)]] w fun e w'=>(∃ i,e=.returned (.int .i64 i)∧IsAt s key i)∧Below w.heap.size w w':=by
 have hl:B<w.heap.size:=World.block_lt_of_cell? w _ hB
 have HN:=hide hn
 clear hn
 go_enter Tryz.func225,Tryz.ntmps225
 go_wp2
 go_loopw [8] (fun i wr=>∃ k:Nat,k≤n∧i=.int .i64 k∧Hid (find s key=find (s.drop k) key)∧Below w.heap.size w wr) (fun i _=>n-(intOf i).toNat)
 case atStart=>exact ⟨0,Nat.zero_le _,rfl,rfl,Below.refl _ _⟩
 case round =>
  obtain ⟨k,hk,rfl,HW,bel⟩:=hrel
  have hsz:=bel.size
  by_cases hlt:k<n
  ·have hka:k<s.length:=by rw [← HN.out];exact hlt
   obtain ⟨p,off,rfl,hbl,hcell⟩:=seg_label ha hka
   obtain ⟨x,hx⟩:∃ x,x=lk s k:=⟨_,rfl⟩
   obtain ⟨y,hy⟩:∃ y,y=lv s k:=⟨_,rfl⟩
   have c0:wr.cell? ⟨p,off+k*2,none⟩=some (.string x):=by rw [hx];exact (bel.cell (by exact hbl)).trans (hcell k hka).1
   have c1:wr.cell? ⟨p,off+k*2+1,none⟩=some (.string y):=by rw [hy];exact (bel.cell (by exact hbl)).trans (hcell k hka).2
   have cB:wr.cell? ⟨B,0,none⟩=some (.string key):=(bel.cell (by exact hl)).trans hB
   have HS:Hid (find s key=if x=key then some (lv s k) else find (s.drop (k+1)) key):=by
    show _=_
    rw [HW.out,find_drop hka,hx]
   have HK:=hide hka
   clear hx hy hcell hka HW
   go_wp2_with fail
   refine (nget1_any x y key B wr cB).mono ?_
   rintro e w1 ⟨rfl,hb1⟩
   have bel1:Below w.heap.size w w1:=bel.trans (hb1.mono hsz)
   clear hb1 bel c0 c1 cB
   by_cases e1:x=key
   ·have hw:Hid (find s key=some (lv s k)):=by show _=_;rw [HS.out,if_pos e1]
    have hd:decide (x=key)=true:=by simpa using e1
    rw [hd]
    clear HS hd e1
    go_wp2
    go_ret
    exact ⟨⟨_,rfl,.inr ⟨k,HK.out,rfl,hw.out⟩⟩,bel1⟩
   ·have hw:Hid (find s key=find (s.drop (k+1)) key):=by show _=_;rw [HS.out,if_neg e1]
    have hd:decide (x=key)=false:=by simpa using e1
    rw [hd]
    clear HS hd e1
    go_wp2
    go_roundw
    case rel=>exact ⟨k+1,by omega,by go_num,hw,bel1⟩
    case measure=>simp [intOf];omega
  ·have he:k=n:=by omega
   subst he
   have hw:Hid (find s key=none):=by
    show _=_
    rw [HW.out,List.drop_eq_nil_of_le (by rw [← HN.out];omega)];rfl
   clear HW
   go_wp2
   go_ret
   exact ⟨⟨_,rfl,.inl ⟨rfl,hw.out⟩⟩,bel⟩
set_option maxHeartbeats 1000000 in
theorem nget_any (s:List (ByteArray×ByteArray)) (key:ByteArray) (ao:Option Addr) (n c:Nat) (w:World) (ha:Seg w ao (lcells s)) (hn:n=s.length) (hc:n≤9223372036854775807) :
  Calls Tryz.prog 200 #[.slice ao n c,.string key] w fun e w'=>e=.returned (.tuple #[.string ((find s key).getD ⟨#[]⟩),.bool (find s key).isSome])∧Below w.heap.size w w':=by
 obtain ⟨V,hV⟩:∃ V,V=w.alloc (.cells #[.string key] 9):=⟨_,rfl⟩
 have bel:Below w.heap.size w V:=by rw [hV];exact (Below.refl _ _).alloc (Nat.le_refl _) _
 have cB:V.cell? ⟨w.heap.size,0,none⟩=some (.string key):=by rw [hV];simp
 have hsz:=bel.size
 have hVs:V.heap.size=w.heap.size+1:=by rw [hV];simp
 have HV:=hide hV
 have HN:=hide hn
 clear hV hn
 have haV:=ha.below bel
 go_enter Tryz.func200,Tryz.ntmps200
 go_wp2_with fail
 rw [← HV.out]
 refine (nidx_any s key w.heap.size ao n c V haV cB HN.out hc).mono ?_
 rintro e w1 ⟨⟨i,rfl,hi⟩,hb1⟩
 have bel1:Below w.heap.size w w1:=bel.trans (hb1.mono hsz)
 clear hb1
 rcases hi with ⟨rfl,hf⟩ | ⟨k,hk,rfl,hf⟩
 ·have HF:=hide hf
  clear hf
  go_wp2
  go_ret2
  exact ⟨by rw [HF.out];rfl,bel1⟩
 ·have HF:=hide hf
  clear hf
  obtain ⟨p,off,rfl,hbl,hcell⟩:=seg_label ha hk
  obtain ⟨y,hy⟩:∃ y,y=lv s k:=⟨_,rfl⟩
  have c1:w1.cell? ⟨p,off+k*2+1,none⟩=some (.string y):=by rw [hy];exact (bel1.cell (by exact hbl)).trans (hcell k hk).2
  have HY:=hide hy
  have hkn:k<n:=by rw [HN.out];exact hk
  clear hy hcell hk
  go_wp2
  go_ret2
  exact ⟨by rw [HF.out,HY.out];rfl,bel1⟩
end Go.Proofs.YtoldmigappbjcaaGreatDoor
namespace Go.GrainU
open Go.RowKit
theorem three_cells {w:World} {B:Nat} {x0 x1 x2:Value} {t:TypeId} {fr:Nat×Nat} (h:w.heap[B]?=some (.cells #[x0,x1,x2] t fr)) :
  w.cell? ⟨B,0,none⟩=some x0∧w.cell? ⟨B,1,none⟩=some x1∧w.cell? ⟨B,2,none⟩=some x2:=by
 simp [World.cell?,h]
end Go.GrainU
namespace Go.Proofs.YtoldmigappbjcaaGreatDoor
open Go.RowKit Go.GrainU
set_option maxHeartbeats 2000000 in
theorem nisso_any (s:List (ByteArray×ByteArray)) (kind:Int) (key val:ByteArray) (ao:Option Addr) (n c:Nat) (w:World) (ha:Seg w ao (lcells s)) (hn:n=s.length) (hc:n≤9223372036854775807) :
  Calls Tryz.prog 161 #[.slice ao n c,.agg #[.int .i64 kind,.string key,.string val]] w fun e w'=>e=.returned (.bool (sayM (find s key) ⟨kind,key,val⟩))∧Below w.heap.size w w':=by
 obtain ⟨V,hV⟩:∃ V,V=w.alloc (.cells #[.int .i64 kind,.string key,.string val] 183):=⟨_,rfl⟩
 obtain ⟨X,hX⟩:∃ X,X=w.heap.size:=⟨_,rfl⟩
 have F:V.heap[X]?=some (.cells #[.int .i64 kind,.string key,.string val] 183 (0,0)):=by rw [hV,hX];exact heap_alloc_new w _
 have bel:Below w.heap.size w V:=by rw [hV];exact (Below.refl _ _).alloc (Nat.le_refl _) _
 have hsz:=bel.size
 have haV:=ha.below bel
 have HV:=hide hV
 have HX:=hide hX
 have HN:=hide hn
 clear hV hn hX
 obtain ⟨c0,c1,c2⟩:=three_cells F
 obtain ⟨f,hf⟩:∃ f,f=find s key:=⟨_,rfl⟩
 have HF:=hide hf
 rw [← hf]
 clear hf
 go_enter Tryz.func161,Tryz.ntmps161
 go_wp2_with fail
 rw [← HV.out,← HX.out]
 refine (nget_any s key ao n c V haV HN.out hc).mono ?_
 rintro e w1 ⟨rfl,hb1⟩
 rw [← HF.out]
 have F1:=below_block hb1 F
 have bel1:Below w.heap.size w w1:=bel.trans (hb1.mono hsz)
 clear hb1 c0 c1 c2 haV F HV HX
 obtain ⟨c0,c1,c2⟩:=three_cells F1
 clear F1
 by_cases g1:kind=1
 ·subst g1
  cases f with
  | none =>
   go_wp2
   go_ret
   exact ⟨rfl,bel1⟩
  | some u =>
   have hW:=word_eq u val
   have hW':(u == val)=decide (u=val):=by rw [Go.beq_toListBytes];exact hW
   have HS:Hid (sayM (some u) ⟨1,key,val⟩=decide (u=val)):=by show _=_;simp [sayM]
   generalize decide (u=val)=D at hW hW' HS
   go_wp2
   go_ret
   exact ⟨ret_bool HS.out.symm,bel1⟩
 ·have b1:(kind == 1)=false:=by simpa using g1
  by_cases g2:kind=2
  ·subst g2
   cases f with
   | none =>
    go_wp2
    go_ret
    exact ⟨rfl,bel1⟩
   | some u =>
    have hW:=word_eq u val
    have hW':(u == val)=decide (u=val):=by rw [Go.beq_toListBytes];exact hW
    have HS:Hid (sayM (some u) ⟨2,key,val⟩ = !decide (u=val)):=by show _=_;simp [sayM]
    generalize decide (u=val)=D at hW hW' HS
    go_wp2
    go_ret
    exact ⟨ret_bool HS.out.symm,bel1⟩
  ·have b2:(kind == 2)=false:=by simpa using g2
   by_cases g3:kind=3
   ·subst g3
    have HS:Hid (sayM f ⟨3,key,val⟩=f.isSome):=by show _=_;simp [sayM]
    generalize f.isSome=D at HS
    go_wp2
    go_ret
    exact ⟨ret_bool HS.out.symm,bel1⟩
   ·have b3:(kind == 3)=false:=by simpa using g3
    by_cases g4:kind=4
    ·subst g4
     have HS:Hid (sayM f ⟨4,key,val⟩ = !f.isSome):=by show _=_;simp [sayM]
     generalize f.isSome=D at HS
     go_wp2
     go_ret
     exact ⟨ret_bool HS.out.symm,bel1⟩
    ·have b4:(kind == 4)=false:=by simpa using g4
     have HS:Hid (sayM f ⟨kind,key,val⟩=false):=by show _=_;simp [sayM,g1,g2,g3,g4]
     clear g1 g2 g3 g4
     go_wp2
     go_ret
     exact ⟨ret_bool HS.out.symm,bel1⟩
set_option maxHeartbeats 1000000 in
theorem nmat1_any (s:List (ByteArray×ByteArray)) (kind:Int) (key val:ByteArray) (B:Nat) (ao:Option Addr) (n c:Nat) (w:World) (ha:Seg w ao (lcells s)) (hB:w.cell? ⟨B,0,none⟩=some (.slice ao n c)) (hn:n=s.length) (hc:n≤9223372036854775807) :
  Calls Tryz.prog 160 #[.agg #[.int .i64 kind,.string key,.string val],.pointer (some ⟨B,0,none⟩)] w fun e w'=>e=.returned (.bool (!sayM (find s key) ⟨kind,key,val⟩))∧Below w.heap.size w w':=by
 have hl:B<w.heap.size:=World.block_lt_of_cell? w _ hB
 have bel:Below w.heap.size w (w.alloc (.cells #[.int .i64 kind,.string key,.string val] 183)):=(Below.refl _ _).alloc (Nat.le_refl _) _
 have hsz:=bel.size
 have haV:=ha.below bel
 have HN:=hide hn
 clear hn
 obtain ⟨D,hD⟩:∃ D,D=sayM (find s key) ⟨kind,key,val⟩:=⟨_,rfl⟩
 rw [← hD]
 have HD:=hide hD
 clear hD
 go_enter Tryz.func160,Tryz.ntmps160
 go_wp2_with fail
 refine (nisso_any s kind key val ao n c _ haV HN.out hc).mono ?_
 rintro e w1 ⟨rfl,hb1⟩
 rw [← HD.out]
 have bel1:Below w.heap.size w w1:=bel.trans (hb1.mono hsz)
 clear hb1
 go_wp2
 go_ret
 exact ⟨rfl,bel1⟩
set_option maxHeartbeats 1000000 in
theorem nidxm_any (s:List (ByteArray×ByteArray)) (l:List Mt) (B:Nat) (ao bo:Option Addr) (n c m c':Nat) (w:World) (ha:Seg w ao (lcells s)) (hb:Seg w bo (mcells l)) (hB:w.cell? ⟨B,0,none⟩=some (.slice ao n c)) (hn:n=s.length) (hm:m=l.length) (hc:n≤9223372036854775807) (hc':m≤9223372036854775807) :
  Calls Tryz.prog 199 #[.slice bo m c',.func (.func 160) #[] #[.pointer (some ⟨B,0,none⟩)]] w fun e w'=>(∃ i:Int,e=.returned (.int .i64 i)∧decide (0≤i) = !says s l)∧Below w.heap.size w w':=by
 have hl:B<w.heap.size:=World.block_lt_of_cell? w _ hB
 have HN:=hide hn
 have HM:=hide hm
 clear hn hm
 go_enter Tryz.func199,Tryz.ntmps199
 go_wp2
 go_loopw [8] (fun i wr=>∃ k:Nat,k≤m∧i=.int .i64 k∧Hid (says s (l.take k)=true)∧Below w.heap.size w wr) (fun i _=>m-(intOf i).toNat)
 case atStart=>exact ⟨0,Nat.zero_le _,rfl,by show says s (l.take 0)=true;simp [says],Below.refl _ _⟩
 case round =>
  obtain ⟨k,hk,rfl,HW,bel⟩:=hrel
  have hsz:=bel.size
  by_cases hlt:k<m
  ·have hka:k<l.length:=by rw [← HM.out];exact hlt
   obtain ⟨p,off,rfl,hbl,hcell⟩:=seg_match hb hka
   obtain ⟨kind,hkd⟩:∃ x,x=(mt l k).kind:=⟨_,rfl⟩
   obtain ⟨key,hky⟩:∃ x,x=(mt l k).key:=⟨_,rfl⟩
   obtain ⟨val,hvl⟩:∃ x,x=(mt l k).val:=⟨_,rfl⟩
   have c0:wr.cell? ⟨p,off+k*3,none⟩=some (.int .i64 kind):=by rw [hkd];exact (bel.cell (by exact hbl)).trans (hcell k hka).1
   have c1:wr.cell? ⟨p,off+k*3+1,none⟩=some (.string key):=by rw [hky];exact (bel.cell (by exact hbl)).trans (hcell k hka).2.1
   have c2:wr.cell? ⟨p,off+k*3+2,none⟩=some (.string val):=by rw [hvl];exact (bel.cell (by exact hbl)).trans (hcell k hka).2.2
   have cB:wr.cell? ⟨B,0,none⟩=some (.slice ao n c):=(bel.cell (by exact hl)).trans hB
   have haw:=ha.below bel
   obtain ⟨D,hD⟩:∃ D,D=sayM (find s key) ⟨kind,key,val⟩:=⟨_,rfl⟩
   have hmt:(⟨kind,key,val⟩:Mt)=mt l k:=by rw [hkd,hky,hvl]
   have YES:Hid (D=true→says s (l.take (k+1))=true):=by
    intro h
    rw [says_take hka,HW.out,← hmt,← hD,h];rfl
   have NO:Hid (D=false→says s l=false):=by
    intro h
    refine says_no hka ?_
    rw [← hmt,← hD,h]
   have HD:=hide hD
   clear hkd hky hvl hcell hka HW hD hmt
   go_wp2_with fail
   refine (nmat1_any s kind key val B ao n c wr haw cB HN.out hc).mono ?_
   rintro e w1 ⟨rfl,hb1⟩
   rw [← HD.out]
   have bel1:Below w.heap.size w w1:=bel.trans (hb1.mono hsz)
   clear hb1 bel c0 c1 c2 cB haw HD
   cases D with
   | false =>
    have hw:=hide (NO.out rfl)
    clear YES NO
    go_wp2
    go_ret
    exact ⟨⟨_,rfl,by rw [hw.out];simp⟩,bel1⟩
   | true =>
    have hw:=hide (YES.out rfl)
    clear YES NO
    go_wp2
    go_roundw
    case rel=>exact ⟨k+1,by omega,by go_num,hw,bel1⟩
    case measure=>simp [intOf];omega
  ·have he:k=m:=by omega
   subst he
   have hw:Hid (says s l=true):=by
    show _=_
    have:=HW.out
    rwa [List.take_of_length_le (by rw [← HM.out];omega)] at this
   clear HW
   go_wp2
   go_ret
   exact ⟨⟨_,rfl,by rw [hw.out];decide⟩,bel⟩
set_option maxHeartbeats 1000000 in
theorem nhasf_any (s:List (ByteArray×ByteArray)) (l:List Mt) (B:Nat) (ao bo:Option Addr) (n c m c':Nat) (w:World) (ha:Seg w ao (lcells s)) (hb:Seg w bo (mcells l)) (hB:w.cell? ⟨B,0,none⟩=some (.slice ao n c)) (hn:n=s.length) (hm:m=l.length) (hc:n≤9223372036854775807) (hc':m≤9223372036854775807) :
  Calls Tryz.prog 159 #[.slice bo m c',.func (.func 160) #[] #[.pointer (some ⟨B,0,none⟩)]] w fun e w'=>e=.returned (.bool (!says s l))∧Below w.heap.size w w':=by
 have HN:=hide hn
 have HM:=hide hm
 clear hn hm
 obtain ⟨D,hD⟩:∃ D,D = !says s l:=⟨_,rfl⟩
 rw [← hD]
 have HD:=hide hD
 clear hD
 go_enter Tryz.func159,Tryz.ntmps159
 go_wp2_with fail
 refine (nidxm_any s l B ao bo n c m c' w ha hb hB HN.out HM.out hc hc').mono ?_
 rintro e w1 ⟨⟨i,rfl,hi⟩,hb1⟩
 rw [← HD.out] at hi
 go_wp2
 go_ret
 exact ⟨rfl,hb1⟩
set_option maxHeartbeats 1000000 in
theorem nmatches_any (s:List (ByteArray×ByteArray)) (l:List Mt) (ao bo:Option Addr) (n c m c':Nat) (w:World) (ha:Seg w ao (lcells s)) (hb:Seg w bo (mcells l)) (hn:n=s.length) (hm:m=l.length) (hc:n≤9223372036854775807) (hc':m≤9223372036854775807) :
  Calls Tryz.prog 112 #[.slice ao n c,.slice bo m c'] w fun e w'=>e=.returned (.bool (says s l))∧Below w.heap.size w w':=by
 obtain ⟨V,hV⟩:∃ V,V=w.alloc (.cells #[.slice ao n c] 32):=⟨_,rfl⟩
 have bel:Below w.heap.size w V:=by rw [hV];exact (Below.refl _ _).alloc (Nat.le_refl _) _
 have cB:V.cell? ⟨w.heap.size,0,none⟩=some (.slice ao n c):=by rw [hV];simp
 have hsz:=bel.size
 have HV:=hide hV
 have HN:=hide hn
 have HM:=hide hm
 clear hV hn hm
 have haV:=ha.below bel
 have hbV:=hb.below bel
 obtain ⟨D,hD⟩:∃ D,D=says s l:=⟨_,rfl⟩
 rw [← hD]
 have HD:=hide hD
 clear hD
 go_enter Tryz.func112,Tryz.ntmps112
 go_wp2_with fail
 rw [← HV.out]
 refine (nhasf_any s l w.heap.size ao bo n c m c' V haV hbV cB HN.out HM.out hc hc').mono ?_
 rintro e w1 ⟨rfl,hb1⟩
 rw [← HD.out]
 have bel1:Below w.heap.size w w1:=bel.trans (hb1.mono hsz)
 clear hb1
 go_wp2
 go_ret
 exact ⟨ret_bool (by simp),bel1⟩
end Go.Proofs.YtoldmigappbjcaaGreatDoor
