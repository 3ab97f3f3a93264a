import Derived.Lib.AppendIntMem
import Derived.Lib.ItoaLen
import Derived.Lib.ItoaNum
import Derived.Lib.Join
import Derived.Shelf.LaysC
import Derived.Shelf.LaysM
import Derived.Shelf.Small.Strs
import Derived.Shelf.Strconv.Atoi
import Derived.Shelf.Strconv.AtoiAll
import Derived.Shelf.Strconv.AtoiErrFast
import Derived.Shelf.Strconv.AtoiFail
import Derived.Shelf.Strconv.AtoiInnerAll
import Derived.Shelf.Strconv.AtoiLong
import Derived.Shelf.Strconv.Clone
import Derived.Shelf.Strconv.ErrVarAll
import Derived.Shelf.Strconv.Itoa0
import Derived.Shelf.Strconv.Itoa1
import Derived.Shelf.Strconv.Itoa2
import Derived.Shelf.Strconv.Itoa3
import Derived.Shelf.Strconv.Lower
import Derived.Shelf.Strconv.ParseInt10
import Derived.Shelf.Strconv.ParseIntEmpty
import Derived.Shelf.Strconv.ParseUint10
import Derived.Shelf.Strconv.ParseUint10Any
import Derived.Shelf.Strconv.ParseUint10Empty
import Derived.Shelf.Strconv.RangeError
import Derived.Shelf.Strconv.SyntaxError
import Derived.Shelf.Strconv.ToError
import Derived.Shelf.Strconv.ToErrorRange
import Derived.Shelf.Strings.Builder1
import Derived.Shelf.Strings.Builder2
import Derived.Shelf.Strings.OnBuilder
import Derived.Shelf.Strings.Prefix
import Derived.Test.YtoldmigappbjcaaGreatDoorK05
import Derived.Test.YtoldmigappbjcaaGreatDoorK06
import Derived.Test.YtoldmigappbjcaaGreatDoorK09
import Derived.Test.YtoldmigappbjcaaGreatDoorK10
import Derived.Test.YtoldmigappbjcaaGreatDoorK11
import Derived.Test.YtoldmigappbjcaaGreatDoorProg
namespace Go.Proofs
open Go.Shelf
def Tryz.lays156_ren:Go.Shelf.Ren:=⟨fun | 156=>124 | 165=>169 | 166=>170 | 169=>171 | 240=>207 | 241=>208 | 276=>232 | 277=>233 | n=>n,fun | 31=>38 | 9=>9 | 3=>3 | 4=>4 | 0=>0 | 20=>20 | 72=>221 | 76=>225 | 70=>219 | 37=>84 | 75=>224 | 127=>261 | 164=>279 | 5=>5 | 80=>227 | n=>n,fun | n=>n⟩
theorem Tryz.lays156:Go.Proofs.Lays.n156 Tryz.prog Tryz.lays156_ren:={
 mixed:=by kernel_rfl
 f156:=Tryz.func124.trans (congrArg some (by kernel_rfl))
 f165:=Tryz.func169.trans (congrArg some (by kernel_rfl))
 f166:=Tryz.func170.trans (congrArg some (by kernel_rfl))
 f169:=Tryz.func171.trans (congrArg some (by kernel_rfl))
 f240:=Tryz.func207.trans (congrArg some (by kernel_rfl))
 f241:=Tryz.func208.trans (congrArg some (by kernel_rfl))
 f276:=Tryz.func232.trans (congrArg some (by kernel_rfl))
 f277:=Tryz.func233.trans (congrArg some (by kernel_rfl))
 t0:=Tryz.underlying0
 a0:=Tryz.isAgg0
 z0:=Tryz.sizeOf0
 v0:=Tryz.zeroValue0
 t3:=Tryz.underlying3
 a3:=Tryz.isAgg3
 z3:=Tryz.sizeOf3
 v3:=Tryz.zeroValue3
 t4:=Tryz.underlying4
 a4:=Tryz.isAgg4
 z4:=Tryz.sizeOf4
 v4:=Tryz.zeroValue4
 t9:=Tryz.underlying9
 a9:=Tryz.isAgg9
 z9:=Tryz.sizeOf9
 v9:=Tryz.zeroValue9
 t20:=Tryz.underlying20
 a20:=Tryz.isAgg20
 z20:=Tryz.sizeOf20
 v20:=Tryz.zeroValue20
 t31:=Tryz.underlying38
 a31:=Tryz.isAgg38
 z31:=Tryz.sizeOf38
 v31:=Tryz.zeroValue38
 t37:=Tryz.underlying84
 a37:=Tryz.isAgg84
 z37:=Tryz.sizeOf84
 v37:=Tryz.zeroValue84
 t70:=Tryz.underlying219
 a70:=Tryz.isAgg219
 z70:=Tryz.sizeOf219
 v70:=Tryz.zeroValue219
 t72:=Tryz.underlying221
 a72:=Tryz.isAgg221
 z72:=Tryz.sizeOf221
 v72:=Tryz.zeroValue221
 t75:=Tryz.underlying224
 a75:=Tryz.isAgg224
 z75:=Tryz.sizeOf224
 v75:=Tryz.zeroValue224
 t76:=Tryz.underlying225
 a76:=Tryz.isAgg225
 z76:=Tryz.sizeOf225
 v76:=Tryz.zeroValue225
 t127:=Tryz.underlying261
 a127:=Tryz.isAgg261
 z127:=Tryz.sizeOf261
 v127:=Tryz.zeroValue261
 t164:=Tryz.underlying279
 a164:=Tryz.isAgg279
 z164:=Tryz.sizeOf279
 v164:=Tryz.zeroValue279 }
theorem Tryz.Builder_Extra_156:Builder.Extra Tryz.prog Tryz.lays156_ren:={
 sizeBuilder:=by kernel_rfl
 liesBuilder:=by kernel_rfl
 t5:=Tryz.underlying5
 a5:=Tryz.isAgg5
 z5:=Tryz.sizeOf5
 v5:=Tryz.zeroValue5
 infoByte:=by kernel_rfl
 cellsByte:=by kernel_rfl
 sizeByte:=by kernel_rfl
 neB5:=by decide }
open Go.RowKit in
theorem Tryz.strings_Join_none (a:Option Addr) (c:Nat) (sep:ByteArray) (w:World) :
  Calls Tryz.prog 124 #[.slice a 0 c,.string sep] w fun e w'=>e=.returned (.string ⟨#[]⟩)∧w'=w:=Any.strings_Join_none Tryz.lays156 Tryz.Builder_Extra_156 a c sep w
open Go.RowKit in
theorem Tryz.strings_Join (bk o c:Nat) (xs:List ByteArray) (sep:ByteArray) (w:World) (hcells:∀ (j:Nat) x,xs[j]?=some x→w.cell? ⟨bk,o+j,none⟩=some (.string x)) (hbk:bk<w.heap.size) (hN:xs.length≤140737488355328) (hcap:xs.length≤c) (hlen:(Lib.join (xs.map (·.data.toList)) sep.data.toList).length≤140737488355328) :
  Calls Tryz.prog 124 #[.slice (some ⟨bk,o,none⟩) xs.length c,.string sep] w fun e w'=>e=.returned (.string ⟨(Lib.join (xs.map (·.data.toList)) sep.data.toList).toArray⟩)∧Below w.heap.size w w':=Any.strings_Join Tryz.lays156 Tryz.Builder_Extra_156 bk o c xs sep w hcells hbk hN hcap hlen
def Tryz.laysM171_ren:Go.Shelf.Ren:=⟨fun | 171=>86 | 243=>122 | 246=>168 | 283=>203 | 284=>204 | 285=>205 | 286=>206 | 129=>228 | 317=>227 | 318=>229 | 319=>230 | 320=>231 | 337=>245 | 338=>246 | n=>n,fun | 3=>3 | 9=>9 | 2=>2 | 4=>4 | 171=>255 | 0=>0 | 53=>256 | 37=>84 | 5=>5 | 173=>259 | 212=>275 | 51=>276 | 20=>20 | 213=>277 | 46=>176 | 232=>296 | 233=>297 | n=>n,fun | 17=>1 | 18=>2 | 19=>3 | n=>n⟩
theorem Tryz.laysM171:Go.Proofs.LaysM.n171 Tryz.prog Tryz.laysM171_ren:={
 mixed:=by kernel_rfl
 f129:=Tryz.func228.trans (congrArg some (by kernel_rfl))
 f171:=Tryz.func86.trans (congrArg some (by kernel_rfl))
 f243:=Tryz.func122.trans (congrArg some (by kernel_rfl))
 f246:=Tryz.func168.trans (congrArg some (by kernel_rfl))
 f283:=Tryz.func203.trans (congrArg some (by kernel_rfl))
 f284:=Tryz.func204.trans (congrArg some (by kernel_rfl))
 f285:=Tryz.func205.trans (congrArg some (by kernel_rfl))
 f286:=Tryz.func206.trans (congrArg some (by kernel_rfl))
 f317:=Tryz.func227.trans (congrArg some (by kernel_rfl))
 f318:=Tryz.func229.trans (congrArg some (by kernel_rfl))
 f319:=Tryz.func230.trans (congrArg some (by kernel_rfl))
 f320:=Tryz.func231.trans (congrArg some (by kernel_rfl))
 f337:=Tryz.func245.trans (congrArg some (by kernel_rfl))
 f338:=Tryz.func246.trans (congrArg some (by kernel_rfl))
 t0:=Tryz.underlying0
 a0:=Tryz.isAgg0
 z0:=Tryz.sizeOf0
 v0:=Tryz.zeroValue0
 t2:=Tryz.underlying2
 a2:=Tryz.isAgg2
 z2:=Tryz.sizeOf2
 v2:=Tryz.zeroValue2
 t3:=Tryz.underlying3
 a3:=Tryz.isAgg3
 z3:=Tryz.sizeOf3
 v3:=Tryz.zeroValue3
 t4:=Tryz.underlying4
 a4:=Tryz.isAgg4
 z4:=Tryz.sizeOf4
 v4:=Tryz.zeroValue4
 t5:=Tryz.underlying5
 a5:=Tryz.isAgg5
 z5:=Tryz.sizeOf5
 v5:=Tryz.zeroValue5
 t9:=Tryz.underlying9
 a9:=Tryz.isAgg9
 z9:=Tryz.sizeOf9
 v9:=Tryz.zeroValue9
 t20:=Tryz.underlying20
 a20:=Tryz.isAgg20
 z20:=Tryz.sizeOf20
 v20:=Tryz.zeroValue20
 t37:=Tryz.underlying84
 a37:=Tryz.isAgg84
 z37:=Tryz.sizeOf84
 v37:=Tryz.zeroValue84
 t46:=Tryz.underlying176
 a46:=Tryz.isAgg176
 z46:=Tryz.sizeOf176
 v46:=Tryz.zeroValue176
 t51:=Tryz.underlying276
 a51:=Tryz.isAgg276
 z51:=Tryz.sizeOf276
 v51:=Tryz.zeroValue276
 t53:=Tryz.underlying256
 a53:=Tryz.isAgg256
 z53:=Tryz.sizeOf256
 v53:=Tryz.zeroValue256
 t171:=Tryz.underlying255
 a171:=Tryz.isAgg255
 z171:=Tryz.sizeOf255
 v171:=Tryz.zeroValue255
 t173:=Tryz.underlying259
 a173:=Tryz.isAgg259
 z173:=Tryz.sizeOf259
 v173:=Tryz.zeroValue259
 t212:=Tryz.underlying275
 a212:=Tryz.isAgg275
 z212:=Tryz.sizeOf275
 v212:=Tryz.zeroValue275
 t213:=Tryz.underlying277
 a213:=Tryz.isAgg277
 z213:=Tryz.sizeOf277
 t232:=Tryz.underlying296
 a232:=Tryz.isAgg296
 z232:=Tryz.sizeOf296
 v232:=Tryz.zeroValue296
 t233:=Tryz.underlying297
 a233:=Tryz.isAgg297
 z233:=Tryz.sizeOf297
 v233:=Tryz.zeroValue297
 g17:=by kernel_rfl
 g18:=by kernel_rfl
 g19:=by kernel_rfl
 i0:=by kernel_rfl
 i2:=by kernel_rfl
 i3:=by kernel_rfl
 i4:=by kernel_rfl
 i5:=by kernel_rfl
 i9:=by kernel_rfl
 i20:=by kernel_rfl
 i37:=by kernel_rfl
 i46:=by kernel_rfl
 i51:=by kernel_rfl
 i53:=by kernel_rfl
 i171:=by kernel_rfl
 i173:=by kernel_rfl
 i212:=by kernel_rfl
 i232:=by kernel_rfl
 i233:=by kernel_rfl
 m17:=by kernel_rfl
 m18:=by kernel_rfl
 m19:=by kernel_rfl }
open Go.RowKit Go.Sort Go.Lib in
theorem Tryz.strconv_Itoa (n : Int) (h0 : -9223372036854775808 ≤ n) (h1 : n ≤ 9223372036854775807) (w : World) (htab : Lib.TabIs Tryz.prog w "internal/strconv.uint64pow10" .u64 Lib.pow10Tab) :
  Calls Tryz.prog 86 #[.int .i64 n] w fun e w'=>e=.returned (.string ⟨(Lib.itoa n).toArray⟩)∧∃ k os,w'=grow (w.drewN k) os:=Any.strconv_Itoa Tryz.laysM171 n h0 h1 w htab
end Go.Proofs
namespace Go.GrainU
open Go.RowKit
def itoaB (n:Int):ByteArray:=⟨(Go.Lib.itoa n).toArray⟩
def mtx (m:Mt):ByteArray:=if m.kind=1 then m.key++lit [61]++m.val else if m.kind=2 then m.key++lit [33,61]++m.val else if m.kind=4 then lit [33]++m.key else m.key
def commas:List ByteArray→ByteArray
 | []=>lit []
 | x::r=>lit [44]++x++commas r
def jn:List ByteArray→ByteArray
 | []=>lit []
 | x::r=>x++commas r
def byt (l:List ByteArray):ByteArray:=if l.length=0 then lit [] else lit [32,98,121,32]++jn l
def rk (h:Hd):Int:=if h.kind=4 then (if h.word=lit [42] then 1 else 0) else 2
def wi (least:Int) (p:Int×ByteArray):ByteArray:=if p.1<least then lit [40]++p.2++lit [41] else p.2
def at2 (l:List (Int×ByteArray)) (k:Nat):Int×ByteArray:=l.getD k (0,lit [])
def bodyT (h:Hd) (l:List (Int×ByteArray)):ByteArray :=
 if h.kind=1 then itoaB h.n
 else if h.kind=2 then h.word++lit [40,123]++jn (h.ms.map mtx)++lit [125,91]++itoaB h.range++lit [93,41]
 else if h.kind=3 then lit [97,108,108,32]++h.word++byt h.bs++lit [32,40]++(at2 l 0).2++lit [41]
 else wi (rk h) (at2 l 0)++lit [32]++h.word++lit [32]++wi (rk h+1) (at2 l 1)
mutual
/-- an expression as text -/
def tx:Ex→ByteArray
 | .mk h kids=>bodyT h (txL kids)
def txL:List Ex→List (Int×ByteArray)
 | []=>[]
 | k::r=>(rk k.hd,tx k)::txL r
end
theorem txL_map (l:List Ex):txL l=l.map fun k=>(rk k.hd,tx k):=by
 induction l with
 | nil=>rfl
 | cons k r ih=>simp [txL,ih]
theorem at2_tx {l:List Ex} {k:Nat} (h:k<l.length):at2 (txL l) k=(rk (l[k]).hd,tx l[k]):=by
 simp [at2,txL_map,List.getD,h]
theorem commas_data (l:List ByteArray):(commas l).data.toList=Go.Lib.joinTail [44] (l.map (·.data.toList)):=by
 induction l with
 | nil=>simp [commas,Go.Lib.joinTail,lit]
 | cons a r ih=>simp [commas,Go.Lib.joinTail,lit,ByteArray.data_append] at ih ⊢;exact ih
theorem jn_join (l:List ByteArray):jn l=⟨(Go.Lib.join (l.map (·.data.toList)) [44]).toArray⟩:=by
 apply ByteArray.ext
 apply Array.toList_inj.1
 cases l with
 | nil=>simp [jn,lit,Go.Lib.join_nil]
 | cons a r =>
  rw [List.map_cons,Go.Lib.join_cons]
  simp [jn,ByteArray.data_append,commas_data]
theorem jn_size_join (l:List ByteArray):(Go.Lib.join (l.map (·.data.toList)) [44]).length=(jn l).size:=by
 rw [jn_join];simp [ByteArray.size]
theorem app_size (a b:ByteArray):(a++b).size=a.size+b.size:=ByteArray.size_append
theorem commas_size {l:List ByteArray} {c:Nat} (h:∀ x∈l,x.size≤c):(commas l).size≤l.length*(c+1):=by
 induction l with
 | nil=>simp [commas,lit_size]
 | cons a r ih =>
  have h1:=h a (by simp)
  have h2:=ih fun x hx=>h x (by simp [hx])
  simp only [commas,app_size,lit_size,List.length_cons,List.length_nil,Nat.add_mul]
  omega
theorem jn_size {l:List ByteArray} {c:Nat} (h:∀ x∈l,x.size≤c):(jn l).size≤l.length*(c+1):=by
 cases l with
 | nil=>simp [jn,lit_size]
 | cons a r =>
  have h1:=h a (by simp)
  have h2:=commas_size (l:=r) (c:=c) fun x hx=>h x (List.mem_cons_of_mem _ hx)
  simp only [jn,app_size,List.length_cons,Nat.add_mul]
  omega
theorem words_size {x:ByteArray} (h:has words8 x=true):x.size≤5:=by
 have:=has_mem h
 simp only [words8,List.mem_cons,List.not_mem_nil,or_false] at this
 rcases this with e | e | e | e | e | e | e | e <;> (rw [e,lit_size];decide)
theorem totals_size {x:ByteArray} (h:has totals4 x=true):x.size≤5:=by
 have:=has_mem h
 simp only [totals4,List.mem_cons,List.not_mem_nil,or_false] at this
 rcases this with e | e | e | e <;> (rw [e,lit_size];decide)
theorem signs_size {x:ByteArray} (h:has signs3 x=true):x.size≤1:=by
 have:=has_mem h
 simp only [signs3,List.mem_cons,List.not_mem_nil,or_false] at this
 rcases this with e | e | e <;> (rw [e,lit_size];decide)
theorem named_size {x:ByteArray} (h:Grain.named x=true):x.size≤12:=by
 unfold Grain.named at h
 simp at h
 exact h.2.2
theorem mBad_ok {m:Mt} (h:mBad m=0):1≤m.kind∧m.kind≤4∧Grain.named m.key=true∧(m.kind≤2→Grain.named m.val=true):=by
 unfold mBad at h
 split at h
 ·omega
 ·rename_i h1
  split at h
  ·rename_i h2
   simp at h2
   refine ⟨by omega,by omega,h2.1,fun hk=>?_⟩
   rcases h2.2 with e | e
   ·omega
   ·exact e
  ·omega
theorem mtx_size {m:Mt} (h:mBad m=0):(mtx m).size≤26:=by
 obtain ⟨h1,h2,h3,h4⟩:=mBad_ok h
 have k:=named_size h3
 unfold mtx
 split
 ·have:=named_size (h4 (by omega));simp only [app_size,lit_size,List.length_cons,List.length_nil];omega
 ·split
  ·have:=named_size (h4 (by omega));simp only [app_size,lit_size,List.length_cons,List.length_nil];omega
  ·split
   ·simp only [app_size,lit_size,List.length_cons,List.length_nil];omega
   ·omega
theorem msBad_ok {l:List Mt} (h:msBad l=0):∀ m∈l,mBad m=0:=by
 induction l with
 | nil=>intro m hm;cases hm
 | cons a r ih =>
  unfold msBad at h
  split at h
  ·rename_i h1
   intro m hm
   rcases List.mem_cons.1 hm with e | e
   ·rw [e];exact h1
   ·exact ih h m e
  ·rename_i h1;exact absurd h h1
theorem allBad_ok {h:Hd} (k:allBad h=0):has totals4 h.word=true∧h.bs.length≤4∧h.bs.all Grain.named=true:=by
 unfold allBad at k
 split at k
 ·omega
 ·rename_i h1
  split at k
  ·omega
  ·split at k
   ·rename_i h3
    exact ⟨by simpa using h1,by omega,h3⟩
   ·omega
theorem itoaB_size {n:Int} (h0:0≤n) (h1:n≤1000000):(itoaB n).size≤21:=by
 have:=Go.Lib.itoa_length_le n (by omega) (by omega)
 simpa [itoaB,ByteArray.size] using this
theorem mtexts_size {l:List Mt} (h:msBad l=0) (hl:l.length≤5):(jn (l.map mtx)).size≤135:=by
 have:=jn_size (l:=l.map mtx) (c:=26) fun x hx=>by
  obtain ⟨m,hm,rfl⟩:=List.mem_map.1 hx
  exact mtx_size (msBad_ok h m hm)
 simp at this
 omega
theorem byt_size {l:List ByteArray} (h:l.all Grain.named=true) (hl:l.length≤4):(byt l).size≤56∧(jn l).size≤52:=by
 rw [List.all_eq_true] at h
 have:=jn_size (l:=l) (c:=12) fun x hx=>named_size (h x hx)
 unfold byt
 split
 ·simp only [lit_size,List.length_nil];omega
 ·simp only [app_size,lit_size,List.length_cons,List.length_nil];omega
theorem wi_size (least:Int) (p:Int×ByteArray):(wi least p).size≤p.2.size+2:=by
 unfold wi
 split
 ·simp only [app_size,lit_size,List.length_cons,List.length_nil];omega
 ·omega
theorem tx_size:∀ x:Ex,Rt x→(tx x).size≤300*cnt x:=by
 refine Ex.ind ?_
 intro h kids ih hr
 obtain ⟨ha,hk⟩:=hr.parts
 simp only [tx,cnt]
 rcases alone_cases ha with ⟨e,k,n0,n1⟩ | ⟨e,k,wb⟩ | ⟨e,k,ab⟩ | ⟨e,k,sg⟩
 ·have:=itoaB_size n0 n1
  simp only [bodyT,e,if_true];omega
 ·obtain ⟨a1,a2,a3,a4,a5⟩:=winBad_ok wb
  have b1:=words_size a1
  have b2:=mtexts_size a3 a2
  have b3:=itoaB_size (n:=h.range) (by omega) (by omega)
  simp only [bodyT,e,show ((2:Int)=1)=False from by simp,if_false,if_true,app_size,lit_size,List.length_cons,List.length_nil];omega
 ·obtain ⟨a1,a2,a3⟩:=allBad_ok ab
  have b1:=totals_size a1
  have b2:=(byt_size a3 a2).1
  match kids,k with
  | [x],_ =>
   have b3:=ih x (by simp) (hk x (by simp))
   simp only [bodyT,e,show ((3:Int)=1)=False from by simp,show ((3:Int)=2)=False from by simp,if_false,if_true,app_size,lit_size,List.length_cons,List.length_nil,at2,txL,List.getD,List.getElem?_cons_zero,Option.getD_some,cntL];omega
 ·have b1:=signs_size sg
  match kids,k with
  | [x,y],_ =>
   have b3:=ih x (by simp) (hk x (by simp))
   have b4:=ih y (by simp) (hk y (by simp))
   have b5:=wi_size (rk h) (rk x.hd,tx x)
   have b6:=wi_size (rk h+1) (rk y.hd,tx y)
   simp only [bodyT,e,show ((4:Int)=1)=False from by simp,show ((4:Int)=2)=False from by simp,show ((4:Int)=3)=False from by simp,if_false,app_size,lit_size,List.length_cons,List.length_nil,at2,txL,List.getD,List.getElem?_cons_zero,List.getElem?_cons_succ,Option.getD_some,cntL] at b5 b6 ⊢;omega
open Go.RowKit
theorem sadd {P:Program} {a b c:ByteArray} (h:c=a++b) (hs:a.size+b.size≤9223372036854775807):∀ w,(Op.stringOp .add a b).run P w=.ok (.string c) w:=by
 intro w
 rw [h]
 exact run_string_add_sum w a b hs
theorem mtx_take {l:List Mt} {k:Nat} (h:k<l.length):(l.take (k+1)).map mtx=(l.take k).map mtx++[mtx (mt l k)]:=by
 rw [take_mt h];simp
end Go.GrainU
namespace Go.Proofs.YtoldmigappbjcaaGreatDoor
open Go.RowKit Go.GrainU
theorem Tab.below {w w':World} (h:Tab w) (hb:Below w.heap.size w w'):Tab w':=Lib.tabBelow_of_tabIs h w' hb
theorem itoa_any (n:Int) (w:World) (h0:0≤n) (h1:n≤1000000) (hT:Tab w) :
  Calls Tryz.prog 86 #[.int .i64 n] w fun e w'=>e=.returned (.string (itoaB n))∧Below w.heap.size w w' :=
 (Tryz.strconv_Itoa n (by omega) (by omega) w hT).mono fun e w' ⟨he,k,os,hw⟩=>⟨he,by rw [hw];exact Lib.below_grow _ _ (Nat.le_refl _) _ _⟩
theorem exjoin_any (xs:List ByteArray) (ao:Option Addr) (n c:Nat) (w:World) (hs:Seg w ao (wcells xs)) (hn:n=xs.length) (hc:n≤c) (hN:n≤100) (hsz:(jn xs).size≤100000) :
  Calls Tryz.prog 124 #[.slice ao n c,.string ⟨#[44]⟩] w fun e w'=>e=.returned (.string (jn xs))∧Below w.heap.size w w':=by
 subst hn
 cases xs with
 | nil =>
  exact (Tryz.strings_Join_none ao c ⟨#[44]⟩ w).mono fun e w' ⟨he,hw⟩=>⟨he,by rw [hw];exact Below.refl _ _⟩
 | cons x r =>
  obtain ⟨b,off,rfl,hbl,hcell⟩:=seg_word hs (k:=0) (by simp)
  refine (Tryz.strings_Join b off c (x::r) ⟨#[44]⟩ w (fun j y hy=>?_) hbl (by omega) hc ?_).mono fun e w' ⟨he,hw⟩=>⟨?_,hw⟩
  ·obtain ⟨hj,e⟩:=List.getElem?_eq_some_iff.1 hy
   rw [hcell j hj,← e]
   simp [List.getD,List.getElem?_eq_getElem hj]
  ·have:=jn_size_join (x::r)
   show (Go.Lib.join _ [44]).length≤_
   omega
  ·rw [he,jn_join]
set_option maxHeartbeats 1000000 in
theorem pmtext_any (k:Int) (a b:ByteArray) (w:World) (hm:mBad ⟨k,a,b⟩=0) :
  Calls Tryz.prog 123 #[.agg #[.int .i64 k,.string a,.string b]] w fun e w'=>e=.returned (.string (mtx ⟨k,a,b⟩))∧Below w.heap.size w w':=by
 have bel:Below w.heap.size w (w.alloc (.cells #[.int .i64 k,.string a,.string b] 183)):=(Below.refl _ _).alloc (Nat.le_refl _) _
 obtain ⟨h1,h2,h3,h4⟩:=mBad_ok hm
 simp only at h1 h2 h3 h4
 have sa:=named_size h3
 clear hm h3
 rcases (show k=1∨k=2∨k=3∨k=4 by omega) with rfl | rfl | rfl | rfl
 ·have sb:=named_size (h4 (by omega))
  obtain ⟨x,hx⟩:∃ x,x=a++lit [61]:=⟨_,rfl⟩
  obtain ⟨y,hy⟩:∃ y,y=x++b:=⟨_,rfl⟩
  have a1:=sadd (P:=Tryz.prog) hx (by rw [lit_size];simp;omega)
  have a2:=sadd (P:=Tryz.prog) hy (by rw [hx,app_size,lit_size];simp;omega)
  have HY:Hid (y=mtx ⟨1,a,b⟩):=by show _=_;rw [hy,hx];simp [mtx]
  unfold lit at a1
  rw [← HY.out]
  clear hx hy h4 sa sb h1 h2
  go_enter Tryz.func123,Tryz.ntmps123
  go_wp2
  go_ret
  exact ⟨rfl,bel⟩
 ·have sb:=named_size (h4 (by omega))
  obtain ⟨x,hx⟩:∃ x,x=a++lit [33,61]:=⟨_,rfl⟩
  obtain ⟨y,hy⟩:∃ y,y=x++b:=⟨_,rfl⟩
  have a1:=sadd (P:=Tryz.prog) hx (by rw [lit_size];simp;omega)
  have a2:=sadd (P:=Tryz.prog) hy (by rw [hx,app_size,lit_size];simp;omega)
  have HY:Hid (y=mtx ⟨2,a,b⟩):=by show _=_;rw [hy,hx];simp [mtx]
  unfold lit at a1
  rw [← HY.out]
  clear hx hy h4 sa sb h1 h2
  go_enter Tryz.func123,Tryz.ntmps123
  go_wp2
  go_ret
  exact ⟨rfl,bel⟩
 ·rw [show mtx ⟨3,a,b⟩=a from by simp [mtx]]
  clear h4 sa h1 h2
  go_enter Tryz.func123,Tryz.ntmps123
  go_wp2
  go_ret
  exact ⟨rfl,bel⟩
 ·obtain ⟨x,hx⟩:∃ x,x=lit [33]++a:=⟨_,rfl⟩
  have a1:=sadd (P:=Tryz.prog) hx (by rw [lit_size];simp;omega)
  have HY:Hid (x=mtx ⟨4,a,b⟩):=by show _=_;rw [hx];simp [mtx]
  unfold lit at a1
  rw [← HY.out]
  clear hx h4 sa h1 h2
  go_enter Tryz.func123,Tryz.ntmps123
  go_wp2
  go_ret
  exact ⟨rfl,bel⟩
set_option maxHeartbeats 2000000 in
theorem pmtexts_any (ms:List Mt) (ma:Option Addr) (ml mc:Nat) (w:World) (hM:Seg w ma (mcells ms)) (hml:ml=ms.length) (l5:ml≤5) (hok:msBad ms=0) :
  Calls Tryz.prog 87 #[.slice ma ml mc] w fun e w'=>e=.returned (.string (jn (ms.map mtx)))∧Below w.heap.size w w':=by
 obtain ⟨i0,hi,hz0,hz1,hz2⟩:=info_parts Tryz.infoStr
 have HML:=hide hml
 have HOK:=hide hok
 obtain ⟨X,hX⟩:∃ X,X=ms.map mtx:=⟨_,rfl⟩
 rw [← hX]
 have HX:=hide hX
 clear hml hok hX
 go_enter Tryz.func87,Tryz.ntmps87
 go_wp2
 go_loopw [3,8] (fun out i wr=>∃ (k d:Nat) (co:Option Addr),k≤ml∧i=.int .i64 k∧out=.slice co k d∧wr.ownsRow w.heap.size 9 1 (.slice co k d) k (wcells (X.take k))∧Below w.heap.size w wr) (fun _ i _=>ml-(intOf i).toNat)
 case atStart=>exact ⟨0,0,none,Nat.zero_le _,rfl,rfl,World.ownsRow_nil _ _ _ _,Below.refl _ _⟩
 case round =>
  obtain ⟨k,d,co,hk,rfl,rfl,own,bel⟩:=hrel
  have hsz:=bel.size
  by_cases hlt:k<ml
  ·have hkl:k<ms.length:=by rw [← HML.out];exact hlt
   obtain ⟨b,off,rfl,hbl,hcell⟩:=seg_match hM hkl
   obtain ⟨m,hm⟩:∃ m,m=mt ms k:=⟨_,rfl⟩
   obtain ⟨q0,q1,q2⟩:=hcell k hkl
   rw [← hm] at q0 q1 q2
   have c0:=(bel.cell (p:=⟨b,off+k*3,none⟩) (by exact hbl)).trans q0
   have c1:=(bel.cell (p:=⟨b,off+k*3+1,none⟩) (by exact hbl)).trans q1
   have c2:=(bel.cell (p:=⟨b,off+k*3+2,none⟩) (by exact hbl)).trans q2
   have HB2:=hide (msBad_ok HOK.out m (by rw [hm];exact mt_mem hkl))
   have HE:Hid (X.take (k+1)=X.take k++[mtx m]):=by show _=_;rw [HX.out,hm,← List.map_take,← List.map_take];exact mtx_take hkl
   clear q0 q1 q2 hcell hm
   obtain ⟨mk,mkey,mval⟩:=m
   simp only at c0 c1 c2
   obtain ⟨V,hV⟩:∃ V,V=wr.alloc (.cells #[.int .i64 mk,.string mkey,.string mval] 183):=⟨_,rfl⟩
   have own1:V.ownsRow w.heap.size 9 1 (.slice co k d) k (wcells (X.take k)):=by rw [hV];exact own.alloc _
   have bel1:Below w.heap.size w V:=by rw [hV];exact bel.alloc hsz _
   have HV:=hide hV
   clear hV own
   go_wp2_with fail
   rw [← HV.out]
   refine (pmtext_any mk mkey mval V HB2.out).mono ?_
   rintro e w1 ⟨rfl,b1⟩
   have own2:=own_below own1 b1
   have bel2:Below w.heap.size w w1:=bel1.trans (b1.mono bel1.size)
   have hs2:=bel2.size
   obtain ⟨x,hx⟩:∃ x,x=mtx ⟨mk,mkey,mval⟩:=⟨_,rfl⟩
   rw [← hx] at HE ⊢
   clear hx own1 bel1 bel b1 c0 c1 c2 HV HB2
   go_wp2_with (at_builtin;refine wpList_append_lies _ rfl _ _ 38 rfl w.heap.size 9 i0 (.string ⟨#[]⟩) 1 16 Tryz.underlying38 hi hz0 hz1 hz2 rfl (by decide) _ _ _ rfl (own2.alloc _) ⟨w1.heap.size,0,none⟩ 1 1 [.string x] rfl rfl (news_one rfl _ _) (by simp [Value.oneCell']) (by decide) (by unfold maxLen;omega) (by omega) (by simp;omega) (w1.heap.size+1) (by simp) ?_)
   intro g' cp' w5 own5 gr5 hat5 hlt5
   have own6:w5.ownsRow w.heap.size 9 1 (.slice (some ⟨g',0,none⟩) (k+1) cp') (k+1) (wcells (X.take (k+1))):=by
    rw [HE.out,wcells_snoc];exact own5
   have bel5:Below w.heap.size w w5:=(bel2.alloc hs2 _).grown gr5 (by simp;omega) (fun j hj=>(own2.lt j hj).1)
   clear own5 gr5 hat5 hlt5 own2 HE
   go_wp2
   go_roundw
   case rel=>exact ⟨k+1,cp',_,by omega,by go_num,rfl,own6,bel5⟩
   case measure=>simp [intOf];omega
  ·have he:k=ml:=by omega
   subst he
   have HT:=hide (List.take_of_length_le (i:=k) (l:=X) (by rw [HX.out,List.length_map,← HML.out];omega))
   rw [HT.out] at own
   obtain ⟨ao,c,hv,sg,hc⟩:=own_open own
   have hv1:co=ao∧d=c:=by simpa using hv
   obtain ⟨rfl,rfl⟩:=hv1
   have HS:Hid ((jn X).size≤135):=by show _≤_;rw [HX.out];exact mtexts_size HOK.out (by rw [← HML.out];exact l5)
   have HL:Hid (k=X.length):=by show _=_;rw [HX.out,List.length_map];exact HML.out
   clear HT HML own hv HOK
   go_wp2_with fail
   refine (exjoin_any X co k d wr sg HL.out hc (by omega) (by have:=HS.out;omega)).mono ?_
   rintro e w2 ⟨rfl,b2⟩
   have bel2:=bel.trans (b2.mono bel.size)
   go_wp2
   go_ret
   exact ⟨rfl,bel2⟩
theorem pby_any (bs:List ByteArray) (ba:Option Addr) (bl bc:Nat) (w:World) (hB:Seg w ba (wcells bs)) (hbl:bl=bs.length) (hc:bl≤bc) (l4:bl≤4) (hok:bs.all Grain.named=true) :
  Calls Tryz.prog 88 #[.slice ba bl bc] w fun e w'=>e=.returned (.string (byt bs))∧Below w.heap.size w w':=by
 have HBL:=hide hbl
 have HS:=hide (byt_size hok (by omega))
 clear hbl
 by_cases h0:bl=0
 ·have HY:Hid (byt bs=⟨#[]⟩):=by show _=_;unfold byt;rw [if_pos (by rw [← HBL.out];exact h0)];rfl
  have e0:((bl:Int) == 0)=true:=by simp [h0]
  rw [HY.out]
  clear h0
  go_enter Tryz.func88,Tryz.ntmps88
  go_wp2
  go_ret
  exact ⟨rfl,Below.refl _ _⟩
 ·have e0:((bl:Int) == 0)=false:=by rw [beq_eq_false_iff_ne];omega
  obtain ⟨y,hy⟩:∃ y,y=lit [32,98,121,32]++jn bs:=⟨_,rfl⟩
  have HY:Hid (byt bs=y):=by show _=_;unfold byt;rw [if_neg (by rw [← HBL.out];exact h0),hy]
  have a1:=sadd (P:=Tryz.prog) hy (by rw [lit_size];have:=HS.out.2;simp;omega)
  unfold lit at a1
  rw [HY.out]
  clear h0 hy HY
  go_enter Tryz.func88,Tryz.ntmps88
  go_wp2_with fail
  refine (exjoin_any bs ba bl bc w hB HBL.out hc (by omega) (by have:=HS.out.2;omega)).mono ?_
  rintro e w2 ⟨rfl,b2⟩
  go_wp2
  go_ret
  exact ⟨rfl,b2⟩
theorem prank_any (h:Hd) (ma:Option Addr) (ml mc:Nat) (ba:Option Addr) (bl bc:Nat) (ka:Option Addr) (kl kc:Nat) (w:World) :
  Calls Tryz.prog 90 #[.agg #[.int .i64 h.kind,.int .i64 h.n,.int .i64 h.range,.string h.word,.slice ma ml mc,.slice ba bl bc,.slice ka kl kc]] w fun e w'=>e=.returned (.int .i64 (rk h))∧Below w.heap.size w w':=by
 obtain ⟨R,hR⟩:∃ R,R=rk h:=⟨_,rfl⟩
 rw [← hR]
 have HR:=hide hR
 clear hR
 obtain ⟨kd,n,rg,wd,ms,bs⟩:=h
 unfold rk at HR
 simp only at HR ⊢
 by_cases h4:kd=4
 ·rw [if_pos h4] at HR
  subst h4
  by_cases hw:wd=⟨#[42]⟩
  ·have HQ:Hid (R=1):=by show _=_;rw [HR.out,if_pos (show wd=lit [42] from hw)]
   clear HR
   subst hw
   go_enter Tryz.func90,Tryz.ntmps90
   go_wp2
   go_ret
   exact ⟨ret_int (a:=1) HQ.out.symm,(Below.refl _ _).alloc (Nat.le_refl _) _⟩
  ·have HQ:Hid (R=0):=by show _=_;rw [HR.out,if_neg (show ¬ wd=lit [42] from hw)]
   have q:=word_not (l:=[42]) hw
   clear HR
   go_enter Tryz.func90,Tryz.ntmps90
   go_wp2
   go_ret
   exact ⟨ret_int (a:=0) HQ.out.symm,(Below.refl _ _).alloc (Nat.le_refl _) _⟩
 ·have HQ:Hid (R=2):=by show _=_;rw [HR.out,if_neg h4]
  have e4:(kd == 4)=false:=by simp [h4]
  clear HR
  go_enter Tryz.func90,Tryz.ntmps90
  go_wp2
  go_ret
  exact ⟨ret_int (a:=2) HQ.out.symm,(Below.refl _ _).alloc (Nat.le_refl _) _⟩
end Go.Proofs.YtoldmigappbjcaaGreatDoor
namespace Go.GrainU
open Go.RowKit
theorem tx_num {h:Hd} {l:List (Int×ByteArray)} (e:h.kind=1):bodyT h l=itoaB h.n:=by simp [bodyT,e]
theorem tx_win {h:Hd} {l:List (Int×ByteArray)} (e:h.kind=2):bodyT h l=h.word++lit [40,123]++jn (h.ms.map mtx)++lit [125,91]++itoaB h.range++lit [93,41]:=by simp [bodyT,e]
theorem tx_all {h:Hd} {l:List (Int×ByteArray)} (e:h.kind=3):bodyT h l=lit [97,108,108,32]++h.word++byt h.bs++lit [32,40]++(at2 l 0).2++lit [41]:=by simp [bodyT,e]
theorem tx_bin {h:Hd} {l:List (Int×ByteArray)} (e:h.kind=4):bodyT h l=wi (rk h) (at2 l 0)++lit [32]++h.word++lit [32]++wi (rk h+1) (at2 l 1):=by simp [bodyT,e]
theorem tx_node {h:Hd} {s:Sp} {kids:List ET}:tx (ET.ex (.node h s kids))=bodyT h (txL (exL kids)):=by simp [ET.ex,tx]
theorem at2_kid {l:List ET} {k:Nat} (h:k<l.length):at2 (txL (exL l)) k=(rk (l[k]).hd,tx (l[k]).ex):=by
 rw [at2_tx (by rw [exL_length];exact h)]
 have e:(exL l)[k]'(by rw [exL_length];exact h)=(l[k]).ex:=by simp [exL_map]
 rw [e]
 cases l[k] with
 | node h s kids=>simp [ET.ex,Ex.hd,ET.hd]
theorem cntL_mem {l:List ET} {t:ET} (h:t∈l):cnt t.ex≤cntL (exL l):=by
 induction l with
 | nil=>cases h
 | cons a r ih =>
  simp only [exL,cntL]
  rcases List.mem_cons.1 h with e | e
  ·rw [e];omega
  ·have:=ih e;omega
theorem Rt.kid {h:Hd} {s:Sp} {kids:List ET} (r:Rt (ET.ex (.node h s kids))) {t:ET} (ht:t∈kids):Rt t.ex:=by
 simp only [ET.ex] at r
 exact r.parts.2 t.ex (by rw [exL_map];exact List.mem_map_of_mem ht)
theorem Rt.here {h:Hd} {s:Sp} {kids:List ET} (r:Rt (ET.ex (.node h s kids))):alone h kids.length=0:=by
 simp only [ET.ex] at r
 have:=r.parts.1
 rw [exL_length] at this
 exact this
theorem cnt_node {h:Hd} {s:Sp} {kids:List ET}:cnt (ET.ex (.node h s kids))=cntL (exL kids)+1:=by simp [ET.ex,cnt]
end Go.GrainU
namespace Go.Proofs.YtoldmigappbjcaaGreatDoor
open Go.RowKit Go.GrainU
set_option maxHeartbeats 4000000 in
theorem ptext_win (h:Hd) (ma:Option Addr) (ml mc:Nat) (ba:Option Addr) (bl bc:Nat) (ka:Option Addr) (kl kc:Nat) (w:World) (hM:Seg w ma (mcells h.ms)) (hml:ml=h.ms.length) (hk:h.kind=2) (wb:winBad h=0) (hT:Tab w) (l:List (Int×ByteArray)) :
  Calls Tryz.prog 54 #[.agg #[.int .i64 h.kind,.int .i64 h.n,.int .i64 h.range,.string h.word,.slice ma ml mc,.slice ba bl bc,.slice ka kl kc]] w fun e w'=>e=.returned (.string (bodyT h l))∧Below w.heap.size w w':=by
 rw [tx_win hk]
 obtain ⟨kd,n,rg,wd,ms,bs⟩:=h
 simp only at hM hml hk ⊢
 subst hk
 obtain ⟨v1,v2,v3,v4,v5⟩:=winBad_ok wb
 simp only at v1 v2 v3 v4 v5
 have z1:=words_size v1
 have z2:=mtexts_size v3 v2
 have z3:=itoaB_size (n:=rg) (by omega) (by omega)
 obtain ⟨J,hJ⟩:∃ J,J=jn (ms.map mtx):=⟨_,rfl⟩
 obtain ⟨I,hI⟩:∃ I,I=itoaB rg:=⟨_,rfl⟩
 rw [← hJ] at z2 ⊢
 rw [← hI] at z3 ⊢
 obtain ⟨s1,h1⟩:∃ s,s=wd++lit [40,123]:=⟨_,rfl⟩
 obtain ⟨s2,h2⟩:∃ s,s=s1++J:=⟨_,rfl⟩
 obtain ⟨s3,h3⟩:∃ s,s=s2++lit [125,91]:=⟨_,rfl⟩
 obtain ⟨s4,h4⟩:∃ s,s=s3++I:=⟨_,rfl⟩
 obtain ⟨s5,h5⟩:∃ s,s=s4++lit [93,41]:=⟨_,rfl⟩
 have t1:s1.size≤10:=by rw [h1,app_size,lit_size];simp;omega
 have t2:s2.size≤150:=by rw [h2,app_size];omega
 have t3:s3.size≤160:=by rw [h3,app_size,lit_size];simp;omega
 have t4:s4.size≤190:=by rw [h4,app_size];omega
 have a1:=sadd (P:=Tryz.prog) h1 (by rw [lit_size];simp;omega)
 have a2:=sadd (P:=Tryz.prog) h2 (by omega)
 have a3:=sadd (P:=Tryz.prog) h3 (by rw [lit_size];simp;omega)
 have a4:=sadd (P:=Tryz.prog) h4 (by omega)
 have a5:=sadd (P:=Tryz.prog) h5 (by rw [lit_size];simp;omega)
 rw [← h1,← h2,← h3,← h4,← h5]
 unfold lit at a1 a3 a5
 have HML:=hide hml
 have HJ:=hide hJ
 have HI:=hide hI
 have HM3:=hide v3
 have l5:ml≤5:=by omega
 clear h1 h2 h3 h4 h5 t1 t2 t3 t4 z1 z2 z3 hml hJ hI v1 v2 v3 wb
 obtain ⟨W,hW⟩:∃ W,W=w.alloc (.cells #[.int .i64 2,.int .i64 n,.int .i64 rg,.string wd,.slice ma ml mc,.slice ba bl bc,.slice ka kl kc] 41):=⟨_,rfl⟩
 have bel0:Below w.heap.size w W:=by rw [hW];exact (Below.refl _ _).alloc (Nat.le_refl _) _
 have F0:W.heap[w.heap.size]?=some (.cells #[.int .i64 2,.int .i64 n,.int .i64 rg,.string wd,.slice ma ml mc,.slice ba bl bc,.slice ka kl kc] 41 (0,0)):=by rw [hW];exact heap_alloc_new w _
 have HB:=hide bel0
 have HS:Hid (∀ w',Below W.heap.size W w'→w'.cell? ⟨w.heap.size,2,none⟩=some (.int .i64 rg)∧w'.cell? ⟨w.heap.size,3,none⟩=some (.string wd)∧w'.cell? ⟨w.heap.size,4,none⟩=some (.slice ma ml mc)):=fun w' hb=>by
  obtain ⟨_,_,p2,p3,p4,_⟩:=seven_cells (below_block hb F0);exact ⟨p2,p3,p4⟩
 have hMW:=hM.below bel0
 have hTW:=hT.below bel0
 have R0:Below W.heap.size W W:=Below.refl _ _
 have R1:Below W.heap.size W W.drew:=below_drewN (Below.refl _ W) 1
 have HW:=hide hW
 clear hW F0 bel0
 go_enter Tryz.func54,Tryz.ntmps54
 go_wp2_with fail
 rw [← HW.out]
 go_region_held3 (fun w'=>w'.cell? ⟨w.heap.size,2,none⟩=some (.int .i64 rg)∧w'.cell? ⟨w.heap.size,3,none⟩=some (.string wd)∧w'.cell? ⟨w.heap.size,4,none⟩=some (.slice ma ml mc)) (exact HS.out _ (by assumption))
  (first
   | (go_at_call 87;refine (pmtexts_any ms ma ml mc _ (hMW.below (by assumption)) HML.out l5 HM3.out).mono ?_;rintro e w1 ⟨rfl,b1⟩;rw [← HJ.out];have R2:=below_step7 b1 (by assumption))
   | (go_at_call 86;refine (itoa_any rg _ (by omega) (by omega) (hTW.below (by assumption))).mono ?_;rintro e w1 ⟨rfl,b1⟩;rw [← HI.out];have R2:=below_step7 b1 (by assumption)))
 go_wp2_with fail
 go_ret
 exact ⟨rfl,HB.out.trans (R2.mono HB.out.size)⟩
abbrev Tells (t:ET):Prop:=∀ w:World,t.In w→Tab w→Calls Tryz.prog 54 #[eval t] w fun e w'=>e=.returned (.string (tx t.ex))∧Below w.heap.size w w'
set_option maxHeartbeats 4000000 in
theorem ptext_all (h:Hd) (ma:Option Addr) (ml mc:Nat) (ba:Option Addr) (bl bc:Nat) (ka:Option Addr) (kc:Nat) (t:ET) (w:World) (hB:Seg w ba (wcells h.bs)) (hbl:bl=h.bs.length) (hbc:bl≤bc) (hk:h.kind=3) (ab:allBad h=0) (hT:Tab w) (hK:Seg w ka (ecells [t])) (hin:t.In w) (ih:Tells t) (hsz:(tx t.ex).size≤100000) (l:List (Int×ByteArray)) (hl:(at2 l 0).2=tx t.ex) :
  Calls Tryz.prog 54 #[.agg #[.int .i64 h.kind,.int .i64 h.n,.int .i64 h.range,.string h.word,.slice ma ml mc,.slice ba bl bc,.slice ka 1 kc]] w fun e w'=>e=.returned (.string (bodyT h l))∧Below w.heap.size w w':=by
 rw [tx_all hk,hl]
 obtain ⟨kd,n,rg,wd,ms,bs⟩:=h
 simp only at hB hbl hk ⊢
 subst hk
 obtain ⟨v1,v2,v3⟩:=allBad_ok ab
 simp only at v1 v2 v3
 have z1:=totals_size v1
 have z2:=(byt_size v3 v2).1
 obtain ⟨J,hJ⟩:∃ J,J=byt bs:=⟨_,rfl⟩
 obtain ⟨I,hI⟩:∃ I,I=tx t.ex:=⟨_,rfl⟩
 rw [← hJ] at z2 ⊢
 rw [← hI] at hsz ⊢
 obtain ⟨s1,h1⟩:∃ s,s=lit [97,108,108,32]++wd:=⟨_,rfl⟩
 obtain ⟨s2,h2⟩:∃ s,s=s1++J:=⟨_,rfl⟩
 obtain ⟨s3,h3⟩:∃ s,s=s2++lit [32,40]:=⟨_,rfl⟩
 obtain ⟨s4,h4⟩:∃ s,s=s3++I:=⟨_,rfl⟩
 obtain ⟨s5,h5⟩:∃ s,s=s4++lit [41]:=⟨_,rfl⟩
 have t1:s1.size≤10:=by rw [h1,app_size,lit_size];simp;omega
 have t2:s2.size≤150:=by rw [h2,app_size];omega
 have t3:s3.size≤160:=by rw [h3,app_size,lit_size];simp;omega
 have t4:s4.size≤100190:=by rw [h4,app_size];omega
 have a1:=sadd (P:=Tryz.prog) h1 (by rw [lit_size];simp;omega)
 have a2:=sadd (P:=Tryz.prog) h2 (by omega)
 have a3:=sadd (P:=Tryz.prog) h3 (by rw [lit_size];simp;omega)
 have a4:=sadd (P:=Tryz.prog) h4 (by omega)
 have a5:=sadd (P:=Tryz.prog) h5 (by rw [lit_size];simp;omega)
 rw [← h1,← h2,← h3,← h4,← h5]
 unfold lit at a1 a3 a5
 have HBL:=hide hbl
 have HJ:=hide hJ
 have HI:=hide hI
 have HB3:=hide v3
 have l4:bl≤4:=by omega
 clear h1 h2 h3 h4 h5 t1 t2 t3 t4 z1 z2 hsz hbl hJ hI v1 v2 v3 ab hl l
 obtain ⟨b,off,rfl,hbb,hcell⟩:=seg_expr hK (k:=0) (by simp)
 have hc:=hcell 0 (by simp)
 simp only [List.getElem_cons_zero,Nat.zero_mul,Nat.add_zero] at hc
 have HIN:=hide hin
 have HIH:=hide ih
 unfold Tells eval at HIH
 obtain ⟨W,hW⟩:∃ W,W=w.alloc (.cells #[.int .i64 3,.int .i64 n,.int .i64 rg,.string wd,.slice ma ml mc,.slice ba bl bc,.slice (some ⟨b,off,none⟩) 1 kc] 41):=⟨_,rfl⟩
 have bel0:Below w.heap.size w W:=by rw [hW];exact (Below.refl _ _).alloc (Nat.le_refl _) _
 have F0:W.heap[w.heap.size]?=some (.cells #[.int .i64 3,.int .i64 n,.int .i64 rg,.string wd,.slice ma ml mc,.slice ba bl bc,.slice (some ⟨b,off,none⟩) 1 kc] 41 (0,0)):=by rw [hW];exact heap_alloc_new w _
 have hcW:=hc.below bel0
 have HB:=hide bel0
 have HS:Hid (∀ w',Below W.heap.size W w'→(w'.cell? ⟨w.heap.size,3,none⟩=some (.string wd)∧w'.cell? ⟨w.heap.size,5,none⟩=some (.slice ba bl bc)∧w'.cell? ⟨w.heap.size,6,none⟩=some (.slice (some ⟨b,off,none⟩) 1 kc))∧Cells7 w' b off t):=fun w' hb=>by
  obtain ⟨_,_,p2,p3,p4,p5,p6⟩:=seven_cells (below_block hb F0);exact ⟨⟨p3,p5,p6⟩,hcW.below hb⟩
 have hBW:=hB.below bel0
 have hTW:=hT.below bel0
 have HINW:=hide (ET.In.below bel0 t HIN.out)
 have R0:Below W.heap.size W W:=Below.refl _ _
 have R1:Below W.heap.size W W.drew:=below_drewN (Below.refl _ W) 1
 have HW:=hide hW
 clear hW F0 bel0 hc hcW hcell HIN hin
 unfold Cells7 at HS
 go_enter Tryz.func54,Tryz.ntmps54
 go_wp2_with fail
 rw [← HW.out]
 go_region_held3 (fun w'=>(w'.cell? ⟨w.heap.size,3,none⟩=some (.string wd)∧w'.cell? ⟨w.heap.size,5,none⟩=some (.slice ba bl bc)∧w'.cell? ⟨w.heap.size,6,none⟩=some (.slice (some ⟨b,off,none⟩) 1 kc))∧w'.cell? ⟨b,off,none⟩=some (.int .i64 t.hd.kind)∧w'.cell? ⟨b,off+1,none⟩=some (.int .i64 t.hd.n)∧w'.cell? ⟨b,off+2,none⟩=some (.int .i64 t.hd.range)∧w'.cell? ⟨b,off+3,none⟩=some (.string t.hd.word)∧w'.cell? ⟨b,off+4,none⟩=some (.slice t.sp.ma t.hd.ms.length t.sp.mc)∧w'.cell? ⟨b,off+5,none⟩=some (.slice t.sp.ba t.hd.bs.length t.sp.bc)∧w'.cell? ⟨b,off+6,none⟩=some (.slice t.sp.ka t.kids.length t.sp.kc)) (exact HS.out _ (by assumption))
  (first
   | (go_at_call 88;refine (pby_any bs ba bl bc _ (hBW.below (by assumption)) HBL.out hbc l4 HB3.out).mono ?_;rintro e w1 ⟨rfl,b1⟩;rw [← HJ.out];have R2:=below_step7 b1 (by assumption))
   | (go_at_call 54;refine (HIH.out _ (ET.In.below (by assumption) t HINW.out) (hTW.below (by assumption))).mono ?_;rintro e w1 ⟨rfl,b1⟩;rw [← HI.out];have R2:=below_step7 b1 (by assumption)))
 go_wp2_with fail
 go_ret
 exact ⟨rfl,HB.out.trans (R2.mono HB.out.size)⟩
end Go.Proofs.YtoldmigappbjcaaGreatDoor
namespace Go.GrainU
open Go.RowKit
theorem rk_bd (h:Hd):0≤rk h∧rk h≤2:=by
 unfold rk
 split
 ·split <;> omega
 ·omega
end Go.GrainU
namespace Go.Proofs.YtoldmigappbjcaaGreatDoor
open Go.RowKit Go.GrainU
set_option maxHeartbeats 2000000 in
theorem pwithin_of (t:ET) (least:Int) (ih:Tells t) (w:World) (hin:t.In w) (hT:Tab w) (hsz:(tx t.ex).size≤100000) :
  Calls Tryz.prog 89 #[eval t,.int .i64 least] w fun e w'=>e=.returned (.string (wi least (rk t.hd,tx t.ex)))∧Below w.heap.size w w':=by
 have HIN:=hide hin
 have HIH:=hide ih
 obtain ⟨I,hI⟩:∃ I,I=tx t.ex:=⟨_,rfl⟩
 obtain ⟨K,hK⟩:∃ K,K=rk t.hd:=⟨_,rfl⟩
 rw [← hI] at hsz ⊢
 rw [← hK]
 have HI:=hide hI
 have HK:=hide hK
 have HRK:=hide (prank_any t.hd)
 clear hin ih hI hK
 unfold Tells eval at HIH
 unfold eval
 generalize t.hd.ms.length=ml at *
 generalize t.hd.bs.length=bl at *
 generalize t.kids.length=kl at *
 obtain ⟨W,hW⟩:∃ W,W=w.alloc (.cells #[.int .i64 t.hd.kind,.int .i64 t.hd.n,.int .i64 t.hd.range,.string t.hd.word,.slice t.sp.ma ml t.sp.mc,.slice t.sp.ba bl t.sp.bc,.slice t.sp.ka kl t.sp.kc] 41):=⟨_,rfl⟩
 have bel0:Below w.heap.size w W:=by rw [hW];exact (Below.refl _ _).alloc (Nat.le_refl _) _
 have F0:W.heap[w.heap.size]?=some (.cells #[.int .i64 t.hd.kind,.int .i64 t.hd.n,.int .i64 t.hd.range,.string t.hd.word,.slice t.sp.ma ml t.sp.mc,.slice t.sp.ba bl t.sp.bc,.slice t.sp.ka kl t.sp.kc] 41 (0,0)):=by rw [hW];exact heap_alloc_new w _
 have HF:=hide F0
 have HW:=hide hW
 clear hW F0
 go_enter Tryz.func89,Tryz.ntmps89
 go_wp2_with fail
 rw [← HW.out]
 refine (HRK.out t.sp.ma ml t.sp.mc t.sp.ba bl t.sp.bc t.sp.ka kl t.sp.kc W).mono ?_
 rintro e w1 ⟨rfl,b1⟩
 rw [← HK.out]
 obtain ⟨p0,p1,p2,p3,p4,p5,p6⟩:=seven_cells (below_block b1 HF.out)
 have bel1:Below w.heap.size w w1:=bel0.trans (b1.mono bel0.size)
 by_cases hlt:K<least
 ·obtain ⟨s1,h1⟩:∃ s,s=lit [40]++I:=⟨_,rfl⟩
  obtain ⟨s2,h2⟩:∃ s,s=s1++lit [41]:=⟨_,rfl⟩
  have HY:Hid (s2=wi least (K,I)):=by show _=_;rw [h2,h1];simp [wi,hlt]
  have a1:=sadd (P:=Tryz.prog) h1 (by rw [lit_size];simp;omega)
  have a2:=sadd (P:=Tryz.prog) h2 (by rw [h1,app_size,lit_size,lit_size];simp;omega)
  unfold lit at a1 a2
  clear h1 h2
  go_wp2_with fail
  refine (HIH.out w1 (ET.In.below bel1 t HIN.out) (hT.below bel1)).mono ?_
  rintro e w2 ⟨rfl,b2⟩
  rw [← HI.out]
  go_wp2_with fail
  go_ret
  exact ⟨by rw [← HY.out];rfl,bel1.trans (b2.mono bel1.size)⟩
 ·have HY:Hid (I=wi least (K,I)):=by show _=_;simp [wi,hlt]
  go_wp2_with fail
  refine (HIH.out w1 (ET.In.below bel1 t HIN.out) (hT.below bel1)).mono ?_
  rintro e w2 ⟨rfl,b2⟩
  rw [← HI.out]
  go_wp2_with fail
  go_ret
  exact ⟨by rw [← HY.out];rfl,bel1.trans (b2.mono bel1.size)⟩
set_option maxHeartbeats 4000000 in
theorem ptext_bin (h:Hd) (ma:Option Addr) (ml mc:Nat) (ba:Option Addr) (bl bc:Nat) (ka:Option Addr) (kc:Nat) (t u:ET) (w:World) (hk:h.kind=4) (sg:has signs3 h.word=true) (hT:Tab w) (hK:Seg w ka (ecells [t,u])) (hin:t.In w) (hin':u.In w) (ih:Tells t) (ih':Tells u) (hsz:(tx t.ex).size≤100000) (hsz':(tx u.ex).size≤100000) (l:List (Int×ByteArray)) (hl:at2 l 0=(rk t.hd,tx t.ex)) (hl':at2 l 1=(rk u.hd,tx u.ex)) :
  Calls Tryz.prog 54 #[.agg #[.int .i64 h.kind,.int .i64 h.n,.int .i64 h.range,.string h.word,.slice ma ml mc,.slice ba bl bc,.slice ka 2 kc]] w fun e w'=>e=.returned (.string (bodyT h l))∧Below w.heap.size w w':=by
 rw [tx_bin hk,hl,hl']
 obtain ⟨K,hKK⟩:∃ K,K=rk h:=⟨_,rfl⟩
 have kb:=rk_bd h
 rw [← hKK] at kb ⊢
 have HRK:=hide (prank_any h ma ml mc ba bl bc ka 2 kc)
 rw [← hKK] at HRK
 have P0:=hide (fun w' hi hT'=>pwithin_of t K ih w' hi hT' hsz)
 have P1:=hide (fun w' hi hT'=>pwithin_of u (K+1) ih' w' hi hT' hsz')
 have zI:=wi_size K (rk t.hd,tx t.ex)
 have zJ:=wi_size (K+1) (rk u.hd,tx u.ex)
 simp only at zI zJ
 obtain ⟨I,hI⟩:∃ I,I=wi K (rk t.hd,tx t.ex):=⟨_,rfl⟩
 obtain ⟨J,hJ⟩:∃ J,J=wi (K+1) (rk u.hd,tx u.ex):=⟨_,rfl⟩
 rw [← hI] at zI P0 ⊢
 rw [← hJ] at zJ P1 ⊢
 clear hI hJ hl hl' l hKK ih ih'
 obtain ⟨kd,n,rg,wd,ms,bs⟩:=h
 simp only at hk sg HRK ⊢
 subst hk
 have z1:=signs_size sg
 obtain ⟨s1,h1⟩:∃ s,s=I++lit [32]:=⟨_,rfl⟩
 obtain ⟨s2,h2⟩:∃ s,s=s1++wd:=⟨_,rfl⟩
 obtain ⟨s3,h3⟩:∃ s,s=s2++lit [32]:=⟨_,rfl⟩
 obtain ⟨s4,h4⟩:∃ s,s=s3++J:=⟨_,rfl⟩
 have t1:s1.size≤100010:=by rw [h1,app_size,lit_size];simp;omega
 have t2:s2.size≤100020:=by rw [h2,app_size];omega
 have t3:s3.size≤100030:=by rw [h3,app_size,lit_size];simp;omega
 have a1:=sadd (P:=Tryz.prog) h1 (by rw [lit_size];simp;omega)
 have a2:=sadd (P:=Tryz.prog) h2 (by omega)
 have a3:=sadd (P:=Tryz.prog) h3 (by rw [lit_size];simp;omega)
 have a4:=sadd (P:=Tryz.prog) h4 (by omega)
 rw [← h1,← h2,← h3,← h4]
 unfold lit at a1 a3
 have hwr:IntKind.i64.wrap (K+1)=K+1:=IntWalk.i64_in _ ⟨by omega,by omega⟩
 clear h1 h2 h3 h4 t1 t2 t3 z1 zI zJ hsz hsz' sg kb
 obtain ⟨b,off,rfl,hbb,hcell⟩:=seg_expr hK (k:=0) (by simp)
 have hc:=hcell 0 (by simp)
 have hc':=hcell 1 (by simp)
 simp only [List.getElem_cons_zero,List.getElem_cons_succ,Nat.zero_mul,Nat.add_zero,Nat.one_mul] at hc hc'
 unfold eval at P0 P1
 obtain ⟨W,hW⟩:∃ W,W=w.alloc (.cells #[.int .i64 4,.int .i64 n,.int .i64 rg,.string wd,.slice ma ml mc,.slice ba bl bc,.slice (some ⟨b,off,none⟩) 2 kc] 41):=⟨_,rfl⟩
 have bel0:Below w.heap.size w W:=by rw [hW];exact (Below.refl _ _).alloc (Nat.le_refl _) _
 have F0:W.heap[w.heap.size]?=some (.cells #[.int .i64 4,.int .i64 n,.int .i64 rg,.string wd,.slice ma ml mc,.slice ba bl bc,.slice (some ⟨b,off,none⟩) 2 kc] 41 (0,0)):=by rw [hW];exact heap_alloc_new w _
 have hcW:=hc.below bel0
 have hcW':=hc'.below bel0
 have HB:=hide bel0
 have HS:Hid (∀ w',Below W.heap.size W w'→(w'.cell? ⟨w.heap.size,0,none⟩=some (.int .i64 4)∧w'.cell? ⟨w.heap.size,1,none⟩=some (.int .i64 n)∧w'.cell? ⟨w.heap.size,2,none⟩=some (.int .i64 rg)∧w'.cell? ⟨w.heap.size,3,none⟩=some (.string wd)∧w'.cell? ⟨w.heap.size,4,none⟩=some (.slice ma ml mc)∧w'.cell? ⟨w.heap.size,5,none⟩=some (.slice ba bl bc)∧w'.cell? ⟨w.heap.size,6,none⟩=some (.slice (some ⟨b,off,none⟩) 2 kc))∧Cells7 w' b off t∧Cells7 w' b (off+7) u):=fun w' hb =>
  ⟨seven_cells (below_block hb F0),hcW.below hb,hcW'.below hb⟩
 have hTW:=hT.below bel0
 have HINW:=hide (ET.In.below bel0 t hin)
 have HINW':=hide (ET.In.below bel0 u hin')
 have R0:Below W.heap.size W W:=Below.refl _ _
 have R1:Below W.heap.size W W.drew:=below_drewN (Below.refl _ W) 1
 have HW:=hide hW
 clear hW F0 bel0 hc hcW hc' hcW' hcell hin hin'
 unfold Cells7 at HS
 go_enter Tryz.func54,Tryz.ntmps54
 go_wp2_with fail
 rw [← HW.out]
 go_region_held3 (fun w'=>(w'.cell? ⟨w.heap.size,0,none⟩=some (.int .i64 4)∧w'.cell? ⟨w.heap.size,1,none⟩=some (.int .i64 n)∧w'.cell? ⟨w.heap.size,2,none⟩=some (.int .i64 rg)∧w'.cell? ⟨w.heap.size,3,none⟩=some (.string wd)∧w'.cell? ⟨w.heap.size,4,none⟩=some (.slice ma ml mc)∧w'.cell? ⟨w.heap.size,5,none⟩=some (.slice ba bl bc)∧w'.cell? ⟨w.heap.size,6,none⟩=some (.slice (some ⟨b,off,none⟩) 2 kc))∧(w'.cell? ⟨b,off,none⟩=some (.int .i64 t.hd.kind)∧w'.cell? ⟨b,off+1,none⟩=some (.int .i64 t.hd.n)∧w'.cell? ⟨b,off+2,none⟩=some (.int .i64 t.hd.range)∧w'.cell? ⟨b,off+3,none⟩=some (.string t.hd.word)∧w'.cell? ⟨b,off+4,none⟩=some (.slice t.sp.ma t.hd.ms.length t.sp.mc)∧w'.cell? ⟨b,off+5,none⟩=some (.slice t.sp.ba t.hd.bs.length t.sp.bc)∧w'.cell? ⟨b,off+6,none⟩=some (.slice t.sp.ka t.kids.length t.sp.kc))∧w'.cell? ⟨b,off+7,none⟩=some (.int .i64 u.hd.kind)∧w'.cell? ⟨b,off+7+1,none⟩=some (.int .i64 u.hd.n)∧w'.cell? ⟨b,off+7+2,none⟩=some (.int .i64 u.hd.range)∧w'.cell? ⟨b,off+7+3,none⟩=some (.string u.hd.word)∧w'.cell? ⟨b,off+7+4,none⟩=some (.slice u.sp.ma u.hd.ms.length u.sp.mc)∧w'.cell? ⟨b,off+7+5,none⟩=some (.slice u.sp.ba u.hd.bs.length u.sp.bc)∧w'.cell? ⟨b,off+7+6,none⟩=some (.slice u.sp.ka u.kids.length u.sp.kc)) (exact HS.out _ (by assumption))
  (first
   | (go_at_call 90;refine (HRK.out _).mono ?_;rintro e w1 ⟨rfl,b1⟩;have R2:=below_step7 b1 (by assumption))
   | (go_at_call 89;refine (P0.out _ (ET.In.below (by assumption) t HINW.out) (hTW.below (by assumption))).mono ?_;rintro e w1 ⟨rfl,b1⟩;have R2:=below_step7 b1 (by assumption);clear P0)
   | (go_at_call 89;refine (P1.out _ (ET.In.below (by assumption) u HINW'.out) (hTW.below (by assumption))).mono ?_;rintro e w1 ⟨rfl,b1⟩;have R2:=below_step7 b1 (by assumption)))
 go_wp2_with fail
 go_ret
 exact ⟨rfl,HB.out.trans (R2.mono HB.out.size)⟩
set_option maxHeartbeats 1000000 in
theorem ptext_any:∀ t:ET,Rt t.ex→cnt t.ex≤100→Tells t:=by
 refine ET.ind ?_
 intro h s kids ih hr hc w hin hT
 have ha:=hr.here
 rw [cnt_node] at hc
 rw [tx_node]
 have hkid:∀ k∈kids,Tells k∧(tx k.ex).size≤100000:=fun k hk=>by
  have:=cntL_mem hk
  refine ⟨ih k hk (hr.kid hk) (by omega),?_⟩
  have:=tx_size k.ex (hr.kid hk)
  omega
 simp only [ET.In] at hin
 obtain ⟨⟨hM,hB,hK⟩,⟨lM,lB,lK,lW,fM,fB,hbc,_⟩,hL⟩:=hin
 rcases alone_cases ha with ⟨e,k,n0,n1⟩ | ⟨e,k,wb⟩ | ⟨e,k,ab⟩ | ⟨e,k,sg⟩
 ·obtain ⟨kd,n,rg,wd,ms,bs⟩:=h
  obtain ⟨ma,mc,ba,bc,ka,kc⟩:=s
  rw [tx_num e]
  simp only at e n0 n1 ⊢
  subst e
  show Calls Tryz.prog _ #[.agg #[.int .i64 1,.int .i64 n,.int .i64 rg,.string wd,.slice ma ms.length mc,.slice ba bs.length bc,.slice ka kids.length kc]] w _
  generalize ms.length=ml
  generalize bs.length=bl
  generalize kids.length=kl
  have bel:Below w.heap.size w (w.alloc (.cells #[.int .i64 1,.int .i64 n,.int .i64 rg,.string wd,.slice ma ml mc,.slice ba bl bc,.slice ka kl kc] 41)):=(Below.refl _ _).alloc (Nat.le_refl _) _
  clear hkid ih hr hc ha hM hB hK lM lB lK lW fM fB hbc hL k
  have HI:=hide (itoa_any n _ n0 n1 (hT.below bel))
  go_enter Tryz.func54,Tryz.ntmps54
  go_wp2_with fail
  refine HI.out.mono ?_
  rintro e w1 ⟨rfl,b1⟩
  go_wp2_with fail
  go_ret
  exact ⟨rfl,bel.trans (b1.mono bel.size)⟩
 ·exact ptext_win h s.ma h.ms.length s.mc s.ba h.bs.length s.bc s.ka kids.length s.kc w hM rfl e wb hT _
 ·match kids,k with
  | [t],_ =>
   have ht:=hkid t (by simp)
   exact ptext_all h s.ma h.ms.length s.mc s.ba h.bs.length s.bc s.ka s.kc t w hB rfl hbc e ab hT hK (inL_mem hL t (by simp)) ht.1 ht.2 _ (by rw [at2_kid (by simp)];rfl)
 ·match kids,k with
  | [t,u],_ =>
   have ht:=hkid t (by simp)
   have hu:=hkid u (by simp)
   exact ptext_bin h s.ma h.ms.length s.mc s.ba h.bs.length s.bc s.ka s.kc t u w e sg hT hK (inL_mem hL t (by simp)) (inL_mem hL u (by simp)) ht.1 hu.1 ht.2 hu.2 _ (by rw [at2_kid (by simp)];rfl) (by rw [at2_kid (by simp)];rfl)
def prt (x:Ex):ByteArray×Int:=if (wr x 1 0).1=0 then (if 2000<(tx x).size then (lit [],4) else (tx x,0)) else (lit [],(wr x 1 0).1)
set_option maxHeartbeats 1000000 in
theorem pprint_any (t:ET) (w:World) (hin:t.In w) (hT:Tab w) :
  Calls Tryz.prog 27 #[eval t] w fun e w'=>e=.returned (.tuple #[.string (prt t.ex).1,.int .i64 (prt t.ex).2])∧Below w.heap.size w w':=by
 have HIN:=hide hin
 have HTX:=hide (ptext_any t)
 have HWR:=hide (pwrong_any t)
 obtain ⟨⟨X,Y⟩,hX⟩:∃ X,X=prt t.ex:=⟨_,rfl⟩
 rw [← hX]
 have HX:=hide hX
 clear hX hin
 obtain ⟨E,hE⟩:∃ E,E=(wr t.ex 1 0).1:=⟨_,rfl⟩
 rw [← hE] at HWR
 have HE:=hide hE
 clear hE
 unfold Tells eval at HTX
 unfold eval at HWR ⊢
 generalize t.hd.ms.length=ml at *
 generalize t.hd.bs.length=bl at *
 generalize t.kids.length=kl at *
 obtain ⟨W,hW⟩:∃ W,W=w.alloc (.cells #[.int .i64 t.hd.kind,.int .i64 t.hd.n,.int .i64 t.hd.range,.string t.hd.word,.slice t.sp.ma ml t.sp.mc,.slice t.sp.ba bl t.sp.bc,.slice t.sp.ka kl t.sp.kc] 41):=⟨_,rfl⟩
 have bel0:Below w.heap.size w W:=by rw [hW];exact (Below.refl _ _).alloc (Nat.le_refl _) _
 have F0:W.heap[w.heap.size]?=some (.cells #[.int .i64 t.hd.kind,.int .i64 t.hd.n,.int .i64 t.hd.range,.string t.hd.word,.slice t.sp.ma ml t.sp.mc,.slice t.sp.ba bl t.sp.bc,.slice t.sp.ka kl t.sp.kc] 41 (0,0)):=by rw [hW];exact heap_alloc_new w _
 have HF:=hide F0
 have HW:=hide hW
 clear hW F0
 go_enter Tryz.func27,Tryz.ntmps27
 go_wp2_with fail
 rw [← HW.out]
 refine (HWR.out W (ET.In.below bel0 t HIN.out)).mono ?_
 rintro e w1 ⟨rfl,b1⟩
 obtain ⟨p0,p1,p2,p3,p4,p5,p6⟩:=seven_cells (below_block b1 HF.out)
 have bel1:Below w.heap.size w w1:=bel0.trans (b1.mono bel0.size)
 by_cases hE0:E=0
 ·have eE:(E == 0)=true:=by simp [hE0]
  obtain ⟨r1,r2,r3,_⟩:=wr_ok t.ex 1 0 (by omega) (by rw [← HE.out];exact hE0)
  have HZ:=hide (tx_size t.ex r1)
  have HC:=hide (show cnt t.ex≤100 by omega)
  have HT2:=hide (HTX.out r1 HC.out)
  have HQ:Hid ((X,Y)=if 2000<(tx t.ex).size then (lit [],4) else (tx t.ex,0)):=by show _=_;rw [HX.out,prt,← HE.out,if_pos hE0]
  obtain ⟨s,hs⟩:∃ s,s=tx t.ex:=⟨_,rfl⟩
  rw [← hs] at HQ HZ
  have Hs:=hide hs
  clear hE0 r1 r2 r3 hs HX HTX
  go_wp2_with fail
  refine (HT2.out w1 (ET.In.below bel1 t HIN.out) (hT.below bel1)).mono ?_
  rintro e w2 ⟨rfl,b2⟩
  rw [← Hs.out]
  have bel2:=bel1.trans (b2.mono bel1.size)
  by_cases hb:2000<s.size
  ·have hb':(2000:Int)<(s.size:Int):=by omega
   have HX2:Hid (X=⟨#[]⟩∧Y=4):=by show _∧_;have:=HQ.out;rw [if_pos hb] at this;simpa [lit] using this
   go_wp2_with fail
   go_ret2
   exact ⟨by rw [HX2.out.1,HX2.out.2];rfl,bel2⟩
  ·have hb':¬ (2000:Int)<(s.size:Int):=by omega
   have HX2:Hid (X=s∧Y=0):=by show _∧_;have:=HQ.out;rw [if_neg hb] at this;simpa using this
   go_wp2_with fail
   go_ret2
   exact ⟨by rw [HX2.out.1,HX2.out.2];rfl,bel2⟩
 ·have eE:(E == 0)=false:=by simp [hE0]
  have HX2:Hid (X=⟨#[]⟩∧Y=E):=by show _∧_;have:=HX.out;rw [prt,← HE.out,if_neg hE0] at this;simpa [lit] using this
  go_wp2_with fail
  go_ret2
  exact ⟨by rw [HX2.out.1,HX2.out.2];rfl,bel1⟩
end Go.Proofs.YtoldmigappbjcaaGreatDoor
