import Derived.Deep.RegionHeld3
import Derived.Shelf.LaysC
import Derived.Shelf.LaysM
import Derived.Shelf.Small.Strs
import Derived.Shelf.Strconv.Atoi
import Derived.Shelf.Strconv.AtoiAll
import Derived.Shelf.Strconv.AtoiErrFast
import Derived.Shelf.Strconv.AtoiFail
import Derived.Shelf.Strconv.AtoiInnerAll
import Derived.Shelf.Strconv.AtoiLong
import Derived.Shelf.Strconv.Clone
import Derived.Shelf.Strconv.ErrVarAll
import Derived.Shelf.Strconv.Itoa0
import Derived.Shelf.Strconv.Itoa1
import Derived.Shelf.Strconv.Itoa2
import Derived.Shelf.Strconv.Itoa3
import Derived.Shelf.Strconv.Lower
import Derived.Shelf.Strconv.ParseInt10
import Derived.Shelf.Strconv.ParseIntEmpty
import Derived.Shelf.Strconv.ParseUint10
import Derived.Shelf.Strconv.ParseUint10Any
import Derived.Shelf.Strconv.ParseUint10Empty
import Derived.Shelf.Strconv.RangeError
import Derived.Shelf.Strconv.SyntaxError
import Derived.Shelf.Strconv.ToError
import Derived.Shelf.Strconv.ToErrorRange
import Derived.Shelf.Strings.Builder1
import Derived.Shelf.Strings.Builder2
import Derived.Shelf.Strings.OnBuilder
import Derived.Shelf.Strings.Prefix
import Derived.Test.YtoldmigappbjcaaGreatDoorK01
import Derived.Test.YtoldmigappbjcaaGreatDoorK07
import Derived.Test.YtoldmigappbjcaaGreatDoorK09
import Derived.Test.YtoldmigappbjcaaGreatDoorProg
import Derived.Test.YtoldmigappbjcaaGreatDoorRows
namespace Go.Proofs
open Go.Shelf
open Go.RowKit in
open Go.RowKit in
open Go.RowKit Go.Sort Go.Lib in
def Tryz.lays99_ren:Go.Shelf.Ren:=⟨fun | 99=>184 | 206=>215 | n=>n,fun | 9=>9 | 4=>4 | 3=>3 | n=>n,fun | n=>n⟩
theorem Tryz.lays99:Go.Proofs.Lays.n99 Tryz.prog Tryz.lays99_ren:={
 mixed:=by kernel_rfl
 f99:=Tryz.func184.trans (congrArg some (by kernel_rfl))
 f206:=Tryz.func215.trans (congrArg some (by kernel_rfl))
 t3:=Tryz.underlying3
 a3:=Tryz.isAgg3
 z3:=Tryz.sizeOf3
 v3:=Tryz.zeroValue3
 t4:=Tryz.underlying4
 a4:=Tryz.isAgg4
 z4:=Tryz.sizeOf4
 v4:=Tryz.zeroValue4
 t9:=Tryz.underlying9
 a9:=Tryz.isAgg9
 z9:=Tryz.sizeOf9
 v9:=Tryz.zeroValue9 }
open Go.RowKit Go.Lib in
theorem Tryz.strings_HasPrefix (s p:ByteArray) (w:World) :
  Calls Tryz.prog 184 #[.string s,.string p] w fun e w'=>e=.returned (.bool (Lib.hasPrefix s.data.toList p.data.toList))∧w'=w:=Any.strings_HasPrefix Tryz.lays99 s p w
def Tryz.laysC172_ren:Go.Shelf.Ren:=⟨fun | 172=>217 | 244=>241 | 245=>242 | 247=>249 | 279=>250 | 280=>251 | 281=>252 | 282=>253 | 287=>256 | 316=>257 | 171=>86 | 205=>258 | 321=>259 | 322=>260 | 243=>122 | 246=>168 | 283=>203 | 284=>204 | 285=>205 | 286=>206 | 129=>228 | 317=>227 | 318=>229 | 319=>230 | 320=>231 | 337=>245 | 338=>246 | n=>n,fun | 9=>9 | 3=>3 | 75=>224 | 76=>225 | 4=>4 | 5=>5 | 167=>290 | 37=>84 | 0=>0 | 85=>291 | 2=>2 | 168=>293 | 53=>256 | 175=>298 | 46=>176 | 210=>302 | 127=>261 | 145=>307 | 143=>305 | 21=>21 | 171=>255 | 173=>259 | 212=>275 | 51=>276 | 20=>20 | 213=>277 | 232=>296 | 233=>297 | 80=>227 | n=>n,fun | 15=>4 | 16=>5 | 17=>1 | 18=>2 | 19=>3 | n=>n⟩
theorem Tryz.laysC172:Go.Proofs.LaysC.n172 Tryz.prog Tryz.laysC172_ren:={
 mixed:=by kernel_rfl
 f129:=Tryz.func228.trans (congrArg some (by kernel_rfl))
 f171:=Tryz.func86.trans (congrArg some (by kernel_rfl))
 f172:=Tryz.func217.trans (congrArg some (by kernel_rfl))
 f205:=Tryz.func258.trans (congrArg some (by kernel_rfl))
 f243:=Tryz.func122.trans (congrArg some (by kernel_rfl))
 f244:=Tryz.func241.trans (congrArg some (by kernel_rfl))
 f245:=Tryz.func242.trans (congrArg some (by kernel_rfl))
 f246:=Tryz.func168.trans (congrArg some (by kernel_rfl))
 f247:=Tryz.func249.trans (congrArg some (by kernel_rfl))
 f279:=Tryz.func250.trans (congrArg some (by kernel_rfl))
 f280:=Tryz.func251.trans (congrArg some (by kernel_rfl))
 f281:=Tryz.func252.trans (congrArg some (by kernel_rfl))
 f282:=Tryz.func253.trans (congrArg some (by kernel_rfl))
 f283:=Tryz.func203.trans (congrArg some (by kernel_rfl))
 f284:=Tryz.func204.trans (congrArg some (by kernel_rfl))
 f285:=Tryz.func205.trans (congrArg some (by kernel_rfl))
 f286:=Tryz.func206.trans (congrArg some (by kernel_rfl))
 f287:=Tryz.func256.trans (congrArg some (by kernel_rfl))
 f316:=Tryz.func257.trans (congrArg some (by kernel_rfl))
 f317:=Tryz.func227.trans (congrArg some (by kernel_rfl))
 f318:=Tryz.func229.trans (congrArg some (by kernel_rfl))
 f319:=Tryz.func230.trans (congrArg some (by kernel_rfl))
 f320:=Tryz.func231.trans (congrArg some (by kernel_rfl))
 f321:=Tryz.func259.trans (congrArg some (by kernel_rfl))
 f322:=Tryz.func260.trans (congrArg some (by kernel_rfl))
 f337:=Tryz.func245.trans (congrArg some (by kernel_rfl))
 f338:=Tryz.func246.trans (congrArg some (by kernel_rfl))
 t0:=Tryz.underlying0
 a0:=Tryz.isAgg0
 z0:=Tryz.sizeOf0
 v0:=Tryz.zeroValue0
 t2:=Tryz.underlying2
 a2:=Tryz.isAgg2
 z2:=Tryz.sizeOf2
 v2:=Tryz.zeroValue2
 t3:=Tryz.underlying3
 a3:=Tryz.isAgg3
 z3:=Tryz.sizeOf3
 v3:=Tryz.zeroValue3
 t4:=Tryz.underlying4
 a4:=Tryz.isAgg4
 z4:=Tryz.sizeOf4
 v4:=Tryz.zeroValue4
 t5:=Tryz.underlying5
 a5:=Tryz.isAgg5
 z5:=Tryz.sizeOf5
 v5:=Tryz.zeroValue5
 t9:=Tryz.underlying9
 a9:=Tryz.isAgg9
 z9:=Tryz.sizeOf9
 v9:=Tryz.zeroValue9
 t20:=Tryz.underlying20
 a20:=Tryz.isAgg20
 z20:=Tryz.sizeOf20
 v20:=Tryz.zeroValue20
 t21:=Tryz.underlying21
 a21:=Tryz.isAgg21
 z21:=Tryz.sizeOf21
 v21:=Tryz.zeroValue21
 t37:=Tryz.underlying84
 a37:=Tryz.isAgg84
 z37:=Tryz.sizeOf84
 v37:=Tryz.zeroValue84
 t46:=Tryz.underlying176
 a46:=Tryz.isAgg176
 z46:=Tryz.sizeOf176
 v46:=Tryz.zeroValue176
 t51:=Tryz.underlying276
 a51:=Tryz.isAgg276
 z51:=Tryz.sizeOf276
 v51:=Tryz.zeroValue276
 t53:=Tryz.underlying256
 a53:=Tryz.isAgg256
 z53:=Tryz.sizeOf256
 v53:=Tryz.zeroValue256
 t75:=Tryz.underlying224
 a75:=Tryz.isAgg224
 z75:=Tryz.sizeOf224
 v75:=Tryz.zeroValue224
 t76:=Tryz.underlying225
 a76:=Tryz.isAgg225
 z76:=Tryz.sizeOf225
 v76:=Tryz.zeroValue225
 t85:=Tryz.underlying291
 a85:=Tryz.isAgg291
 z85:=Tryz.sizeOf291
 v85:=Tryz.zeroValue291
 t127:=Tryz.underlying261
 a127:=Tryz.isAgg261
 z127:=Tryz.sizeOf261
 v127:=Tryz.zeroValue261
 t143:=Tryz.underlying305
 a143:=Tryz.isAgg305
 z143:=Tryz.sizeOf305
 v143:=Tryz.zeroValue305
 t145:=Tryz.underlying307
 a145:=Tryz.isAgg307
 z145:=Tryz.sizeOf307
 v145:=Tryz.zeroValue307
 t167:=Tryz.underlying290
 a167:=Tryz.isAgg290
 z167:=Tryz.sizeOf290
 v167:=Tryz.zeroValue290
 t168:=Tryz.underlying293
 a168:=Tryz.isAgg293
 z168:=Tryz.sizeOf293
 v168:=Tryz.zeroValue293
 t171:=Tryz.underlying255
 a171:=Tryz.isAgg255
 z171:=Tryz.sizeOf255
 v171:=Tryz.zeroValue255
 t173:=Tryz.underlying259
 a173:=Tryz.isAgg259
 z173:=Tryz.sizeOf259
 v173:=Tryz.zeroValue259
 t175:=Tryz.underlying298
 a175:=Tryz.isAgg298
 z175:=Tryz.sizeOf298
 v175:=Tryz.zeroValue298
 t210:=Tryz.underlying302
 a210:=Tryz.isAgg302
 z210:=Tryz.sizeOf302
 v210:=Tryz.zeroValue302
 t212:=Tryz.underlying275
 a212:=Tryz.isAgg275
 z212:=Tryz.sizeOf275
 v212:=Tryz.zeroValue275
 t213:=Tryz.underlying277
 a213:=Tryz.isAgg277
 z213:=Tryz.sizeOf277
 t232:=Tryz.underlying296
 a232:=Tryz.isAgg296
 z232:=Tryz.sizeOf296
 v232:=Tryz.zeroValue296
 t233:=Tryz.underlying297
 a233:=Tryz.isAgg297
 z233:=Tryz.sizeOf297
 v233:=Tryz.zeroValue297
 g15:=by kernel_rfl
 g16:=by kernel_rfl
 g17:=by kernel_rfl
 g18:=by kernel_rfl
 g19:=by kernel_rfl
 t80:=Tryz.underlying227
 a80:=Tryz.isAgg227
 z80:=Tryz.sizeOf227
 v80:=Tryz.zeroValue227
 i0:=by kernel_rfl
 i2:=by kernel_rfl
 i3:=by kernel_rfl
 i4:=by kernel_rfl
 i5:=by kernel_rfl
 i9:=by kernel_rfl
 i20:=by kernel_rfl
 i21:=by kernel_rfl
 i37:=by kernel_rfl
 i46:=by kernel_rfl
 i51:=by kernel_rfl
 i53:=by kernel_rfl
 i75:=by kernel_rfl
 i76:=by kernel_rfl
 i80:=by kernel_rfl
 i85:=by kernel_rfl
 i127:=by kernel_rfl
 i143:=by kernel_rfl
 i145:=by kernel_rfl
 i167:=by kernel_rfl
 i168:=by kernel_rfl
 i171:=by kernel_rfl
 i173:=by kernel_rfl
 i175:=by kernel_rfl
 i210:=by kernel_rfl
 i212:=by kernel_rfl
 i232:=by kernel_rfl
 i233:=by kernel_rfl
 m15:=by kernel_rfl
 m16:=by kernel_rfl
 m17:=by kernel_rfl
 m18:=by kernel_rfl
 m19:=by kernel_rfl
 c0:=by kernel_rfl
 c2:=by kernel_rfl
 c3:=by kernel_rfl
 c4:=by kernel_rfl
 c5:=by kernel_rfl
 c9:=by kernel_rfl
 c20:=by kernel_rfl
 c21:=by kernel_rfl
 c37:=by kernel_rfl
 c46:=by kernel_rfl
 c51:=by kernel_rfl
 c53:=by kernel_rfl
 c75:=by kernel_rfl
 c76:=by kernel_rfl
 c80:=by kernel_rfl
 c85:=by kernel_rfl
 c127:=by kernel_rfl
 c143:=by kernel_rfl
 c145:=by kernel_rfl
 c167:=by kernel_rfl
 c168:=by kernel_rfl
 c171:=by kernel_rfl
 c173:=by kernel_rfl
 c175:=by kernel_rfl
 c210:=by kernel_rfl
 c212:=by kernel_rfl
 c213:=by kernel_rfl
 c232:=by kernel_rfl
 c233:=by kernel_rfl }
open Go.RowKit in
theorem Tryz.strconv_Atoi_ok (s:ByteArray) (hmax:s.size≤9223372036854775806) (v:Int) (h:Lib.atoiAll s.data.toList=.ok v) (w:World) :
  Calls Tryz.prog 217 #[.string s] w fun e w'=>e=.returned (.tuple #[.int .i64 v,.nilIface])∧(w'=w∨∃ t,w'=Lib.bytesWorld w 5 t):=Any.strconv_Atoi_ok Tryz.laysC172 s hmax v h w
open Go.RowKit in
open Go.RowKit in
open Go.RowKit in
open Go.RowKit in
theorem Tryz.strconv_Atoi_range_var (s : ByteArray) (hlim : s.size ≤ 281474976710656) (h : Lib.atoiAll s.data.toList = .range) (tp : TypeId) (p : Value) (w : World) (hvar : w.var? Tryz.prog "strconv.ErrRange" = some #[.iface tp p]) :
  Calls Tryz.prog 217 #[.string s] w fun e w'=>∃ N,e=.returned (.tuple #[.int .i64 (Lib.atoiSat s.data.toList),.iface 293 (.pointer (some ⟨N,0,none⟩))])∧w.heap.size≤N∧w'.heap[N]?=some (.cells #[.string ⟨#[65,116,111,105]⟩,.string s,.iface tp p] 302 (0,0))∧Below w.heap.size w w':=Any.strconv_Atoi_range_var Tryz.laysC172 s hlim h tp p w hvar
end Go.Proofs
namespace Go.GrainU
open Go.RowKit
def pos (s:ByteArray) (r:List UInt8):Nat:=s.size-r.length
theorem size_len (s:ByteArray):s.size=s.data.toList.length:=by show s.data.size=_;exact Array.length_toList.symm
theorem suf_len {s:ByteArray} {r:List UInt8} (h:r <:+ s.data.toList):r.length≤s.size:=by rw [size_len];exact h.length_le
theorem suf_drop {s:ByteArray} {r:List UInt8} (h:r <:+ s.data.toList):s.data.toList.drop (pos s r)=r:=by
 obtain ⟨t,ht⟩:=h
 have hl:s.size=t.length+r.length:=by rw [size_len,← ht,List.length_append]
 unfold pos
 rw [← ht,hl,Nat.add_sub_cancel]
 exact List.drop_left
theorem suf_byte {s:ByteArray} {c:UInt8} {t:List UInt8} (h:(c::t) <:+ s.data.toList):∃ hk:pos s (c::t)<s.size,s[pos s (c::t)]'hk=c:=by
 have hl:=suf_len h
 have hd:=suf_drop h
 have hk:pos s (c::t)<s.size:=by unfold pos;simp at hl ⊢;omega
 refine ⟨hk,?_⟩
 have h1:s.data.toList[pos s (c::t)]?=some c:=by
  have:=congrArg (fun l:List UInt8=>l[0]?) hd
  simpa using this
 rw [Array.getElem?_toList] at h1
 have h2:s.data[pos s (c::t)]?=some (s.data[pos s (c::t)]'hk):=Array.getElem?_eq_getElem hk
 rw [h2] at h1
 exact Option.some.inj h1
theorem pos_tail {s:ByteArray} {c:UInt8} {t:List UInt8} (h:(c::t) <:+ s.data.toList):pos s t=pos s (c::t)+1:=by
 have hl:=suf_len h
 unfold pos
 simp at hl ⊢
 omega
theorem pos_drop {s:ByteArray} {r:List UInt8} {k:Nat} (h:r <:+ s.data.toList) (hk:k≤r.length):pos s (r.drop k)=pos s r+k:=by
 have hl:=suf_len h
 unfold pos
 rw [List.length_drop]
 omega
theorem skip_suf (r:List UInt8):skip r <:+ r:=List.dropWhile_suffix _
theorem drop_suf (r:List UInt8) (k:Nat):r.drop k <:+ r:=List.drop_suffix k r
theorem acc_some {sg r r':List UInt8} (h:acc sg r=some r'):sg.isPrefixOf (skip r)=true∧r'=(skip r).drop sg.length∧sg.length≤(skip r).length:=by
 unfold acc at h
 split at h
 ·rename_i hp
  refine ⟨hp,(Option.some.inj h).symm,?_⟩
  exact (List.isPrefixOf_iff_prefix.1 hp).length_le
 ·cases h
structure Rd (t:TypeId) (w:World) (B:Nat) (s:ByteArray) (st:St):Prop where
 suf:st.r <:+ s.data.toList
 blk:w.heap[B]?=some (.cells #[.string s,.int .i64 (pos s st.r:Nat),.int .i64 (st.n:Nat)] t (0,0))
theorem Rd.lt {t:TypeId} {w:World} {B:Nat} {s:ByteArray} {st:St} (h:Rd t w B s st):B<w.heap.size:=by
 rcases Nat.lt_or_ge B w.heap.size with e | e
 ·exact e
 ·have:=h.blk;rw [Array.getElem?_eq_none (by exact e)] at this;cases this
theorem Rd.cells {t:TypeId} {w:World} {B:Nat} {s:ByteArray} {st:St} (h:Rd t w B s st) :
  w.cell? ⟨B,0,none⟩=some (.string s)∧w.cell? ⟨B,1,none⟩=some (.int .i64 (pos s st.r:Nat))∧w.cell? ⟨B,2,none⟩=some (.int .i64 (st.n:Nat)):=three_cells7 h.blk
theorem Rd.thaw {t:TypeId} {w:World} {B:Nat} {s:ByteArray} {st:St} (h:Rd t w B s st) :
  w.frozen? ⟨B,0,none⟩=false∧w.frozen? ⟨B,1,none⟩=false∧w.frozen? ⟨B,2,none⟩=false:=by
 have:=h.blk
 simp [World.frozen?,this]
theorem Rd.at {t:TypeId} {w:World} {B:Nat} {s:ByteArray} {st:St} (h:Rd t w B s st) {r:List UInt8} (hr:r <:+ s.data.toList):Rd t (w.setCell ⟨B,1,none⟩ (.int .i64 (pos s r:Nat))) B s ⟨r,st.n⟩ :=
 ⟨hr,by have:=h.blk;simp [World.setCell,Array.getElem?_modify,this]⟩
theorem Rd.nodes {t:TypeId} {w:World} {B:Nat} {s:ByteArray} {st:St} (h:Rd t w B s st) (n:Nat):Rd t (w.setCell ⟨B,2,none⟩ (.int .i64 (n:Nat))) B s ⟨st.r,n⟩ :=
 ⟨h.suf,by have:=h.blk;simp [World.setCell,Array.getElem?_modify,this]⟩
theorem Rd.alloc {t:TypeId} {w:World} {B:Nat} {s:ByteArray} {st:St} (h:Rd t w B s st) (o:Obj):Rd t (w.alloc o) B s st :=
 ⟨h.suf,by rw [Below.heap_alloc _ _ _ h.lt];exact h.blk⟩
theorem Rd.below {t:TypeId} {w w':World} {B:Nat} {s:ByteArray} {st:St} (h:Rd t w B s st) (hb:Below w.heap.size w w'):Rd t w' B s st :=
 ⟨h.suf,below_block hb h.blk⟩
theorem grown_set8 {w:World} {B o:Nat} {y:Value}:w.grownBy (w.setCell ⟨B,o,none⟩ y) (some B) :=
 ⟨rfl,rfl,rfl,by simp,fun k hk hne=>setCell_far (fun e=>hne (by rw [e]))⟩
end Go.GrainU
namespace Go.Proofs.YtoldmigappbjcaaGreatDoor
open Go.RowKit Go.GrainU
set_option maxHeartbeats 1000000 in
theorem rbegin_any (s:ByteArray) (st:St) (B:Nat) (w:World) (h:Rd 95 w B s st) (hs:s.size≤2000) :
  Calls Tryz.prog 63 #[.pointer (some ⟨B,0,none⟩)] w fun e w'=>e=.returned (.int .i64 (pos s (skip st.r):Nat))∧w'=w:=by
 obtain ⟨c0,c1,c2⟩:=h.cells
 have HSUF:=hide h.suf
 obtain ⟨r,n⟩:=st
 simp only at c1 c2 HSUF ⊢
 clear h
 obtain ⟨P,hP⟩:∃ P,P=pos s r:=⟨_,rfl⟩
 rw [← hP] at c1
 have HP:=hide hP
 clear hP
 go_enter Tryz.func63,Tryz.ntmps63
 go_wp2
 go_loopw [3] (fun i wr=>∃ (K:Nat) (q:List UInt8),i=.int .i64 K∧Hid (K=pos s q∧q <:+ s.data.toList∧skip q=skip r)∧wr=w) (fun i _=>s.size-(intOf i).toNat)
 case atStart=>exact ⟨P,r,rfl,⟨HP.out,HSUF.out,rfl⟩,rfl⟩
 case round =>
  obtain ⟨K,q,rfl,HQ,rfl⟩:=hrel
  cases q with
  | nil =>
   have hK:K=s.size:=by rw [HQ.out.1];simp [pos]
   have hlt:¬ (K:Int)<(s.size:Int):=by omega
   have HE:Hid (pos s (skip r)=K):=by show _=_;rw [← HQ.out.2.2,HQ.out.1];rfl
   clear hK
   go_wp2
   go_ret
   exact ⟨by rw [HE.out];rfl,rfl⟩
  | cons c t =>
   obtain ⟨hk,hb⟩:=suf_byte HQ.out.2.1
   have hK:=HQ.out.1
   rw [← hK] at hk
   have hb':((s[K]'hk).toNat:Int)=(c.toNat:Int):=by simp only [hK];rw [hb]
   obtain ⟨C,hC⟩:∃ C:Int,C=(c.toNat:Int):=⟨_,rfl⟩
   rw [← hC] at hb'
   have hlt:(K:Int)<(s.size:Int):=by omega
   clear hK hb
   by_cases e:c=32
   ·have eC:(C == 32)=true:=by rw [hC,e];rfl
    have HQ':Hid (K+1=pos s t∧t <:+ s.data.toList∧skip t=skip r):=by
     refine ⟨by rw [pos_tail HQ.out.2.1,← HQ.out.1],(List.suffix_cons c t).trans HQ.out.2.1,?_⟩
     rw [← HQ.out.2.2]
     simp [skip,e]
    clear hC e
    go_wp2
    go_roundw
    case rel=>exact ⟨K+1,t,by go_num,HQ',by first | rfl | trivial⟩
    case measure=>simp [intOf];omega
   ·have eC:(C == 32)=false:=by
     rw [hC,beq_eq_false_iff_ne]
     intro h
     apply e
     apply UInt8.toNat_inj.1
     have:(32:UInt8).toNat=32:=rfl
     omega
    have HE:Hid (pos s (skip r)=K):=by
     show _=_
     rw [← HQ.out.2.2,HQ.out.1]
     have:skip (c::t)=c::t:=by simp [skip,e]
     rw [this]
    clear hC e
    go_wp2
    go_ret
    exact ⟨by rw [HE.out];rfl,rfl⟩
end Go.Proofs.YtoldmigappbjcaaGreatDoor
namespace Go.GrainU
open Go.RowKit
theorem lit_data (l:List UInt8):(lit l).data.toList=l:=by simp [lit]
theorem extract_list (s:ByteArray) (a b:Nat):(s.extract a b).data.toList=(s.data.toList.drop a).take (b-a):=by
 simp [ByteArray.data_extract]
theorem rest_list {s:ByteArray} {r:List UInt8} (h:r <:+ s.data.toList):(s.extract (pos s r) s.size).data.toList=r:=by
 rw [extract_list,suf_drop h]
 apply List.take_of_length_le
 have:=suf_len h
 unfold pos
 omega
end Go.GrainU
namespace Go.Proofs.YtoldmigappbjcaaGreatDoor
open Go.RowKit Go.GrainU
set_option maxHeartbeats 1000000 in
theorem accept_any (sg:List UInt8) (s:ByteArray) (st:St) (B:Nat) (w:World) (h:Rd 95 w B s st) (hs:s.size≤2000) :
  Calls Tryz.prog 145 #[.pointer (some ⟨B,0,none⟩),.string (lit sg)] w fun e w'=>e=.returned (.bool (acc sg st.r).isSome)∧Rd 95 w' B s ⟨(acc sg st.r).getD st.r,st.n⟩∧w.grownBy w' (some B):=by
 obtain ⟨c0,c1,c2⟩:=h.cells
 obtain ⟨t0,t1,t2⟩:=h.thaw
 have HB:=hide (rbegin_any s st B w h hs)
 have H:=hide h
 have HR:=hide (rest_list ((skip_suf st.r).trans h.suf))
 obtain ⟨K,hK⟩:∃ K,K=pos s (skip st.r):=⟨_,rfl⟩
 have hKs:K≤s.size:=by rw [hK];unfold pos;omega
 have HKl:Hid (K+(skip st.r).length=s.size):=by show _=_;rw [hK];have:=suf_len ((skip_suf st.r).trans h.suf);unfold pos;omega
 rw [← hK] at HB HR
 have HK:=hide hK
 clear hK h
 go_enter Tryz.func145,Tryz.ntmps145
 go_wp2_with fail
 refine HB.out.mono ?_
 intro e w1 hh
 rw [hh.1,hh.2]
 clear hh HB
 go_wp2_with fail
 refine (Tryz.strings_HasPrefix _ _ w).mono ?_
 intro e w1 hh
 rw [hh.1,hh.2,HR.out,lit_data]
 clear hh
 obtain ⟨L,hL⟩:∃ L,L=(lit sg).size:=⟨_,rfl⟩
 have HL:Hid (L=sg.length):=by show _=_;rw [hL,lit_size]
 cases ha:sg.isPrefixOf (skip st.r) with
 | false =>
  have HA:Hid (acc sg st.r=none):=by show _=_;simp [acc,ha]
  have e1:Lib.hasPrefix (skip st.r) sg=false:=ha
  rw [e1]
  clear hL
  go_wp2
  go_ret
  exact ⟨by rw [HA.out];rfl,by rw [HA.out];exact H.out,World.grownBy.refl _ _⟩
 | true =>
  have HA:Hid (acc sg st.r=some ((skip st.r).drop sg.length)):=by show _=_;simp [acc,ha]
  have e1:Lib.hasPrefix (skip st.r) sg=true:=ha
  have hle:=(acc_some HA.out).2.2
  have hLs:K+L≤s.size:=by have:=HL.out;have:=HKl.out;omega
  have HP:Hid (pos s ((skip st.r).drop sg.length)=K+L):=by
   show _=_
   rw [pos_drop ((skip_suf st.r).trans H.out.suf) hle,← HK.out,HL.out]
  have hR2:=H.out.at ((drop_suf (skip st.r) sg.length).trans ((skip_suf st.r).trans H.out.suf))
  rw [HP.out] at hR2
  rw [e1]
  simp only [Int.natCast_add] at hR2
  have HR2:=hide hR2
  have hL':(lit sg).size=L:=hL.symm
  clear ha hR2 hle e1 hL
  go_wp2
  go_ret
  exact ⟨by rw [HA.out];rfl,by rw [HA.out];exact HR2.out,grown_set8⟩
def thr (s:ByteArray) (f:Flt):PanicEntry:={ v:=.iface 121 (.agg #[.int .i64 f.1,.int .i64 (s.size-f.2:Nat)]),recovered:=false }
theorem throw_any (er a:Int) (w:World) :
  Calls Tryz.prog 61 #[.int .i64 er,.int .i64 a] w fun e w'=>e=.panicked [{ v:=.iface 121 (.agg #[.int .i64 er,.int .i64 a]),recovered:=false }]∧w'=w:=by
 go_enter Tryz.func61,Tryz.ntmps61
 go_wp2
 exact ⟨rfl,rfl,rfl⟩
theorem expect_any (sg:List UInt8) (s:ByteArray) (st:St) (B:Nat) (w:World) (h:Rd 95 w B s st) (hs:s.size≤2000) :
  Calls Tryz.prog 185 #[.pointer (some ⟨B,0,none⟩),.string (lit sg)] w fun e w'=>((∃ r,expe sg st.r=.ok r∧e=.returned (.tuple #[])∧Rd 95 w' B s ⟨r,st.n⟩)∨∃ f,expe sg st.r=.error f∧e=.panicked [thr s f])∧w.grownBy w' (some B):=by
 have HA:=hide (accept_any sg s st B w h hs)
 go_enter Tryz.func185,Tryz.ntmps185
 go_wp2_with fail
 refine HA.out.mono ?_
 rintro e w1 ⟨rfl,h1,g1⟩
 cases ha:acc sg st.r with
 | some r =>
  rw [ha] at h1
  simp only [Option.getD_some] at h1
  simp only [Option.isSome_some]
  have HX:Hid (expe sg st.r=.ok r):=by show _=_;simp [expe,ha]
  clear ha
  go_wp2_with fail
  refine bodyPost_end (results_none rfl _ _ _) rfl ?_
  exact ⟨.inl ⟨r,HX.out,rfl,h1⟩,g1⟩
 | none =>
  rw [ha] at h1
  simp only [Option.getD_none] at h1
  simp only [Option.isSome_none]
  have HX:Hid (expe sg st.r=.error (2,(skip st.r).length)):=by show _=_;simp [expe,ha]
  clear ha
  go_wp2_with fail
  refine (rbegin_any s _ B w1 h1 hs).mono ?_
  intro e w2 hh
  rw [hh.1,hh.2]
  clear hh
  go_wp2_with fail
  refine (throw_any _ _ w1).mono ?_
  intro e w2 hh
  rw [hh.1,hh.2]
  clear hh
  go_wp2_with fail
  exact ⟨rfl,.inr ⟨_,HX.out,rfl⟩,g1⟩
theorem rnext_any (s:ByteArray) (st:St) (B:Nat) (w:World) (h:Rd 95 w B s st) (hs:s.size≤2000) :
  Calls Tryz.prog 187 #[.pointer (some ⟨B,0,none⟩)] w fun e w'=>e=.returned (.int .u8 ((nxt st.r).toNat:Nat))∧w'=w:=by
 obtain ⟨c0,c1,c2⟩:=h.cells
 have HB:=hide (rbegin_any s st B w h hs)
 have HSUF:=hide ((skip_suf st.r).trans h.suf)
 obtain ⟨K,hK⟩:∃ K,K=pos s (skip st.r):=⟨_,rfl⟩
 rw [← hK] at HB
 have HK:=hide hK
 clear hK h
 go_enter Tryz.func187,Tryz.ntmps187
 go_wp2_with fail
 refine HB.out.mono ?_
 intro e w1 hh
 rw [hh.1,hh.2]
 clear hh HB
 cases hq:skip st.r with
 | nil =>
  have hKs:((K:Int) == (s.size:Int))=true:=by rw [HK.out,hq];simp [pos]
  have HN:Hid (nxt st.r=0):=by show _=_;simp [nxt,hq]
  clear hq HK HSUF
  go_wp2
  go_ret
  exact ⟨by rw [HN.out];rfl,rfl⟩
 | cons c t =>
  have HS2:=HSUF.out
  rw [hq] at HS2
  obtain ⟨hk,hb⟩:=suf_byte HS2
  have hK:K=pos s (c::t):=by rw [HK.out,hq]
  rw [← hK] at hk
  have hb':((s[K]'hk).toNat:Int)=(c.toNat:Int):=by simp only [hK];rw [hb]
  have HN:Hid ((c.toNat:Int)=((nxt st.r).toNat:Nat)):=by show _=_;simp [nxt,hq]
  obtain ⟨C,hC⟩:∃ C:Int,C=(c.toNat:Int):=⟨_,rfl⟩
  rw [← hC] at hb' HN
  have hKs:((K:Int) == (s.size:Int))=false:=by rw [beq_eq_false_iff_ne];omega
  clear hq HK HSUF HS2 hK hb hC
  go_wp2
  go_ret
  exact ⟨by rw [← HN.out];rfl,rfl⟩
theorem letter_any (c:Int) (w:World):Calls Tryz.prog 254 #[.int .u8 c] w fun e w'=>e=.returned (.bool (decide (97≤c) && decide (c≤122)))∧w'=w:=by
 by_cases h1:97≤c
 ·by_cases h2:c≤122
  ·go_enter Tryz.func254,Tryz.ntmps254
   go_wp2
   go_ret
   exact ⟨by first | (simp;omega) | simp [h2] | simp,rfl⟩
  ·go_enter Tryz.func254,Tryz.ntmps254
   go_wp2
   go_ret
   exact ⟨by first | (simp;omega) | simp [h2] | simp,rfl⟩
 ·go_enter Tryz.func254,Tryz.ntmps254
  go_wp2
  go_ret
  exact ⟨by first | (simp;omega) | simp,rfl⟩
theorem digit_any (c:Int) (w:World):Calls Tryz.prog 186 #[.int .u8 c] w fun e w'=>e=.returned (.bool (decide (48≤c) && decide (c≤57)))∧w'=w:=by
 by_cases h1:48≤c
 ·by_cases h2:c≤57
  ·go_enter Tryz.func186,Tryz.ntmps186
   go_wp2
   go_ret
   exact ⟨by first | (simp;omega) | simp [h2] | simp,rfl⟩
  ·go_enter Tryz.func186,Tryz.ntmps186
   go_wp2
   go_ret
   exact ⟨by first | (simp;omega) | simp [h2] | simp,rfl⟩
 ·go_enter Tryz.func186,Tryz.ntmps186
  go_wp2
  go_ret
  exact ⟨by first | (simp;omega) | simp,rfl⟩
theorem letter_byte (b:UInt8) (w:World):Calls Tryz.prog 254 #[.int .u8 (b.toNat:Nat)] w fun e w'=>e=.returned (.bool (letter b))∧w'=w :=
 (letter_any _ w).mono fun e w' h=>⟨by rw [h.1];congr 2;unfold letter;congr 1 <;> (apply decide_eq_decide.2;omega),h.2⟩
theorem digit_byte (b:UInt8) (w:World):Calls Tryz.prog 186 #[.int .u8 (b.toNat:Nat)] w fun e w'=>e=.returned (.bool (digit b))∧w'=w :=
 (digit_any _ w).mono fun e w' h=>⟨by rw [h.1];congr 2;unfold digit;congr 1 <;> (apply decide_eq_decide.2;omega),h.2⟩
theorem wbyte_byte (b:UInt8) (w:World):Calls Tryz.prog 255 #[.int .u8 (b.toNat:Nat)] w fun e w'=>e=.returned (.bool (wbyte b))∧w'=w:=by
 have HL:=hide (letter_byte b w)
 have HD:=hide (digit_byte b w)
 obtain ⟨C,hC⟩:∃ C:Int,C=(b.toNat:Nat):=⟨_,rfl⟩
 rw [← hC] at HL HD ⊢
 cases h1:letter b with
 | true =>
  have HW:Hid (wbyte b=true):=by show _=_;simp [wbyte,h1]
  rw [HW.out]
  rw [h1] at HL
  clear h1 hC
  go_enter Tryz.func255,Tryz.ntmps255
  go_wp2_with fail
  refine HL.out.mono ?_
  intro e w1 hh
  rw [hh.1,hh.2]
  clear hh
  go_wp2_with fail
  go_ret
  exact ⟨rfl,rfl⟩
 | false =>
  rw [h1] at HL
  cases h2:digit b with
  | true =>
   have HW:Hid (wbyte b=true):=by show _=_;simp [wbyte,h2]
   rw [HW.out]
   rw [h2] at HD
   clear h1 h2 hC
   go_enter Tryz.func255,Tryz.ntmps255
   go_wp2_with fail
   refine HL.out.mono ?_
   intro e w1 hh
   rw [hh.1,hh.2]
   clear hh
   go_wp2_with fail
   refine HD.out.mono ?_
   intro e w1 hh
   rw [hh.1,hh.2]
   clear hh
   go_wp2_with fail
   go_ret
   exact ⟨rfl,rfl⟩
  | false =>
   obtain ⟨R,hR⟩:∃ R,R=(C == 95):=⟨_,rfl⟩
   have HW:Hid (wbyte b=R):=by
    show _=_
    rw [hR]
    simp only [wbyte,h1,h2,Bool.false_or]
    cases hb:(b == 95) with
    | true =>
     have:b=95:=by simpa using hb
     rw [hC,this]
     rfl
    | false =>
     symm
     rw [hC,beq_eq_false_iff_ne]
     intro hh
     have h3:b≠95:=by simpa using hb
     apply h3
     apply UInt8.toNat_inj.1
     have:(95:UInt8).toNat=95:=rfl
     omega
   have hR':(C == 95)=R:=hR.symm
   rw [HW.out]
   rw [h2] at HD
   clear h1 h2 hC hR
   go_enter Tryz.func255,Tryz.ntmps255
   go_wp2_with fail
   refine HL.out.mono ?_
   intro e w1 hh
   rw [hh.1,hh.2]
   clear hh
   go_wp2_with fail
   refine HD.out.mono ?_
   intro e w1 hh
   rw [hh.1,hh.2]
   clear hh
   go_wp2_with fail
   go_ret
   exact ⟨rfl,rfl⟩
end Go.Proofs.YtoldmigappbjcaaGreatDoor
namespace Go.GrainU
open Go.RowKit
theorem take_front {p:UInt8→Bool} {f q:List UInt8} (hf:f.all p=true) (hq:q=[]∨∃ c t,q=c::t∧p c=false):(f++q).takeWhile p=f∧(f++q).dropWhile p=q:=by
 induction f with
 | nil =>
  rcases hq with rfl | ⟨c,t,rfl,hc⟩
  ·simp
  ·simp [hc]
 | cons a r ih =>
  simp at hf
  have:=ih (by simpa using hf.2)
  simp [hf.1,this]
theorem lit_extract {s:ByteArray} {r f q:List UInt8} (h:r <:+ s.data.toList) (e:r=f++q):s.extract (pos s r) (pos s q)=lit f:=by
 have hl:=suf_len h
 apply ByteArray.ext
 apply Array.toList_inj.1
 rw [extract_list,suf_drop h,lit_data,e]
 have:pos s q-pos s (f++q)=f.length:=by
  rw [e] at hl
  unfold pos
  simp at hl ⊢
  omega
 rw [this]
 simp
theorem Rd.drewN {t:TypeId} {w:World} {B:Nat} {s:ByteArray} {st:St} (h:Rd t w B s st) (n:Nat):Rd t (w.drewN n) B s st:=⟨h.suf,h.blk⟩
theorem grown_drewN {w w':World} {r:Option Nat} (h:w.grownBy w' r) (n:Nat):w.grownBy (w'.drewN n) r:=grown_trans h (grown_of_below (below_drewN (Below.refl _ _) n)) (fun k hk=>by cases hk)
end Go.GrainU
namespace Go.Proofs.YtoldmigappbjcaaGreatDoor
open Go.RowKit Go.GrainU
set_option maxHeartbeats 2000000 in
set_option maxRecDepth 100000 in
theorem run_digits (s : ByteArray) (st : St) (B : Nat) (w : World) (h : Rd 95 w B s st) (hs : s.size ≤ 2000) :
    Calls Tryz.prog 216 #[.pointer (some ⟨B, 0, none⟩), .func (.func 186) #[] #[]] w fun e w' => e = .returned (.string (lit ((skip st.r).takeWhile digit))) ∧ Rd 95 w' B s ⟨(skip st.r).dropWhile digit, st.n⟩ ∧ w.grownBy w' (some B) := by
  obtain ⟨c0, c1, c2⟩ := h.cells
  obtain ⟨t0, t1, t2⟩ := h.thaw
  have HB := hide (rbegin_any s st B w h hs)
  have H := hide h
  have HSUF := hide ((skip_suf st.r).trans h.suf)
  obtain ⟨K, hK⟩ : ∃ K, K = pos s (skip st.r) := ⟨_, rfl⟩
  rw [← hK] at HB
  have hKs : K ≤ s.size := by rw [hK]; unfold pos; omega
  have R0 := h.at HSUF.out
  rw [← hK] at R0
  have HR0 := hide R0
  have HK := hide hK
  clear hK h R0
  go_enter Tryz.func216, Tryz.ntmps216
  go_wp2_with fail
  refine HB.out.mono ?_
  intro e w1 hh
  rw [hh.1, hh.2]
  clear hh HB
  go_wp2_with fail
  clear c0 c1 c2 t0 t1 t2
  go_loopw [] (fun wr => ∃ (f q : List UInt8), Hid (skip st.r = f ++ q ∧ f.all digit = true) ∧ Rd 95 wr B s ⟨q, st.n⟩ ∧ w.grownBy wr (some B)) (fun wr => s.size - (intOf ((wr.cell? ⟨B, 1, none⟩).getD undef)).toNat)
  case atStart => exact ⟨[], skip st.r, ⟨rfl, rfl⟩, by have := HR0.out; rw [HK.out] at this ⊢; exact this, grown_set8⟩
  case round =>
    obtain ⟨f, q, HQ, R, gr⟩ := hrel
    obtain ⟨c0, c1, c2⟩ := R.cells
    obtain ⟨t0, t1, t2⟩ := R.thaw
    have HRR := hide R
    have HX := hide (lit_extract (f := f) (q := q) HSUF.out HQ.out.1)
    rw [← HK.out] at HX
    simp only at c1 c2
    obtain ⟨P, hP⟩ : ∃ P, P = pos s q := ⟨_, rfl⟩
    rw [← hP] at c1 HX
    have hPs : P ≤ s.size := by rw [hP]; unfold pos; omega
    have hKP : K ≤ P := by
      rw [HK.out, hP, HQ.out.1]
      unfold pos
      simp
      omega
    cases q with
    | nil =>
      have hPe : P = s.size := by rw [hP]; simp [pos]
      have HE := hide (take_front HQ.out.2 (q := []) (.inl rfl))
      rw [← HQ.out.1] at HE
      have Hd : Hid (decide (P < s.size) = false) := by show _ = _; simp; omega
      clear hP R hPe
      go_wp2_with fail
      have hd := Hd.out
      go_quiet (fail)
      go_wp2_with fail
      go_quiet (fail)
      go_wp2_with fail
      go_ret
      exact ⟨by rw [HE.out.1, ← HX.out]; rfl, by rw [HE.out.2]; exact (HRR.out.drewN _).drewN _, grown_drewN (grown_drewN gr _) _⟩
    | cons c t =>
      obtain ⟨hk, hb⟩ := suf_byte HRR.out.suf
      have hk' : P < s.size := by rw [hP]; exact hk
      have hb' : ((s[P]'hk').toNat : Int) = (c.toNat : Int) := by simp only [hP]; rw [hb]
      have Hd : Hid (decide (P < s.size) = true) := by show _ = _; simp; omega
      have hlt : (P : Int) < (s.size : Int) := by omega
      have HC := hide (digit_byte c)
      have HT : Hid (pos s t = P + 1) := by show _ = _; rw [pos_tail HRR.out.suf, ← hP]
      have R2 := HRR.out.at ((List.suffix_cons c t).trans HRR.out.suf)
      rw [HT.out] at R2
      simp only [Int.natCast_add] at R2
      have HR2 := hide R2
      obtain ⟨C, hC⟩ : ∃ C : Int, C = (c.toNat : Int) := ⟨_, rfl⟩
      rw [← hC] at hb' HC
      have HP := hide hP
      cases hp : digit c with
      | true =>
        rw [hp] at HC
        have HQ' : Hid (skip st.r = (f ++ [c]) ++ t ∧ (f ++ [c]).all digit = true) := ⟨by rw [HQ.out.1]; simp, by simp [HQ.out.2, hp]⟩
        clear hC R hb hP R2 hk hp
        go_wp2_with fail
        have hd := Hd.out
        go_quiet (first | (go_at_call 186; exact Calls.quiet_of_same (HC.out _)))
        have R3 := (HRR.out.drewN nq).at ((List.suffix_cons c t).trans HRR.out.suf)
        rw [HT.out] at R3
        simp only [Int.natCast_add] at R3
        have H3 := hide R3.cells.2.1
        have H1 := hide c1
        go_wp2_with fail
        go_roundw
        case rel => exact ⟨f ++ [c], t, HQ', R3, grown_trans (grown_drewN gr nq) grown_set8 (fun _ hk => .inl hk)⟩
        case measure => have c3 : ((wr.drewN nq).setCell ⟨B, 1, none⟩ (.int .i64 ((P : Int) + 1))).cell? ⟨B, 1, none⟩ = some (.int .i64 ((P : Int) + 1)) := by have := H3.out; simp only [HT.out, Int.natCast_add] at this; exact this
                        rw [H1.out, c3]; simp [intOf]; omega
      | false =>
        rw [hp] at HC
        have HE := hide (take_front HQ.out.2 (q := c :: t) (.inr ⟨c, t, rfl, hp⟩))
        rw [← HQ.out.1] at HE
        clear hC R hb hP R2 hk hp
        go_wp2_with fail
        have hd := Hd.out
        go_quiet (first | (go_at_call 186; exact Calls.quiet_of_same (HC.out _)))
        go_wp2_with fail
        go_quiet (fail)
        go_wp2_with fail
        go_ret
        exact ⟨by rw [HE.out.1, ← HX.out]; rfl, by rw [HE.out.2]; exact (HRR.out.drewN _).drewN _, grown_drewN (grown_drewN gr _) _⟩
set_option maxHeartbeats 2000000 in
set_option maxRecDepth 100000 in
theorem run_wbytes (s : ByteArray) (st : St) (B : Nat) (w : World) (h : Rd 95 w B s st) (hs : s.size ≤ 2000) :
    Calls Tryz.prog 216 #[.pointer (some ⟨B, 0, none⟩), .func (.func 255) #[] #[]] w fun e w' => e = .returned (.string (lit ((skip st.r).takeWhile wbyte))) ∧ Rd 95 w' B s ⟨(skip st.r).dropWhile wbyte, st.n⟩ ∧ w.grownBy w' (some B) := by
  obtain ⟨c0, c1, c2⟩ := h.cells
  obtain ⟨t0, t1, t2⟩ := h.thaw
  have HB := hide (rbegin_any s st B w h hs)
  have H := hide h
  have HSUF := hide ((skip_suf st.r).trans h.suf)
  obtain ⟨K, hK⟩ : ∃ K, K = pos s (skip st.r) := ⟨_, rfl⟩
  rw [← hK] at HB
  have hKs : K ≤ s.size := by rw [hK]; unfold pos; omega
  have R0 := h.at HSUF.out
  rw [← hK] at R0
  have HR0 := hide R0
  have HK := hide hK
  clear hK h R0
  go_enter Tryz.func216, Tryz.ntmps216
  go_wp2_with fail
  refine HB.out.mono ?_
  intro e w1 hh
  rw [hh.1, hh.2]
  clear hh HB
  go_wp2_with fail
  clear c0 c1 c2 t0 t1 t2
  go_loopw [] (fun wr => ∃ (f q : List UInt8), Hid (skip st.r = f ++ q ∧ f.all wbyte = true) ∧ Rd 95 wr B s ⟨q, st.n⟩ ∧ w.grownBy wr (some B)) (fun wr => s.size - (intOf ((wr.cell? ⟨B, 1, none⟩).getD undef)).toNat)
  case atStart => exact ⟨[], skip st.r, ⟨rfl, rfl⟩, by have := HR0.out; rw [HK.out] at this ⊢; exact this, grown_set8⟩
  case round =>
    obtain ⟨f, q, HQ, R, gr⟩ := hrel
    obtain ⟨c0, c1, c2⟩ := R.cells
    obtain ⟨t0, t1, t2⟩ := R.thaw
    have HRR := hide R
    have HX := hide (lit_extract (f := f) (q := q) HSUF.out HQ.out.1)
    rw [← HK.out] at HX
    simp only at c1 c2
    obtain ⟨P, hP⟩ : ∃ P, P = pos s q := ⟨_, rfl⟩
    rw [← hP] at c1 HX
    have hPs : P ≤ s.size := by rw [hP]; unfold pos; omega
    have hKP : K ≤ P := by
      rw [HK.out, hP, HQ.out.1]
      unfold pos
      simp
      omega
    cases q with
    | nil =>
      have hPe : P = s.size := by rw [hP]; simp [pos]
      have HE := hide (take_front HQ.out.2 (q := []) (.inl rfl))
      rw [← HQ.out.1] at HE
      have Hd : Hid (decide (P < s.size) = false) := by show _ = _; simp; omega
      clear hP R hPe
      go_wp2_with fail
      have hd := Hd.out
      go_quiet (fail)
      go_wp2_with fail
      go_quiet (fail)
      go_wp2_with fail
      go_ret
      exact ⟨by rw [HE.out.1, ← HX.out]; rfl, by rw [HE.out.2]; exact (HRR.out.drewN _).drewN _, grown_drewN (grown_drewN gr _) _⟩
    | cons c t =>
      obtain ⟨hk, hb⟩ := suf_byte HRR.out.suf
      have hk' : P < s.size := by rw [hP]; exact hk
      have hb' : ((s[P]'hk').toNat : Int) = (c.toNat : Int) := by simp only [hP]; rw [hb]
      have Hd : Hid (decide (P < s.size) = true) := by show _ = _; simp; omega
      have hlt : (P : Int) < (s.size : Int) := by omega
      have HC := hide (wbyte_byte c)
      have HT : Hid (pos s t = P + 1) := by show _ = _; rw [pos_tail HRR.out.suf, ← hP]
      have R2 := HRR.out.at ((List.suffix_cons c t).trans HRR.out.suf)
      rw [HT.out] at R2
      simp only [Int.natCast_add] at R2
      have HR2 := hide R2
      obtain ⟨C, hC⟩ : ∃ C : Int, C = (c.toNat : Int) := ⟨_, rfl⟩
      rw [← hC] at hb' HC
      have HP := hide hP
      cases hp : wbyte c with
      | true =>
        rw [hp] at HC
        have HQ' : Hid (skip st.r = (f ++ [c]) ++ t ∧ (f ++ [c]).all wbyte = true) := ⟨by rw [HQ.out.1]; simp, by simp [HQ.out.2, hp]⟩
        clear hC R hb hP R2 hk hp
        go_wp2_with fail
        have hd := Hd.out
        go_quiet (first | (go_at_call 255; exact Calls.quiet_of_same (HC.out _)))
        have R3 := (HRR.out.drewN nq).at ((List.suffix_cons c t).trans HRR.out.suf)
        rw [HT.out] at R3
        simp only [Int.natCast_add] at R3
        have H3 := hide R3.cells.2.1
        have H1 := hide c1
        go_wp2_with fail
        go_roundw
        case rel => exact ⟨f ++ [c], t, HQ', R3, grown_trans (grown_drewN gr nq) grown_set8 (fun _ hk => .inl hk)⟩
        case measure => have c3 : ((wr.drewN nq).setCell ⟨B, 1, none⟩ (.int .i64 ((P : Int) + 1))).cell? ⟨B, 1, none⟩ = some (.int .i64 ((P : Int) + 1)) := by have := H3.out; simp only [HT.out, Int.natCast_add] at this; exact this
                        rw [H1.out, c3]; simp [intOf]; omega
      | false =>
        rw [hp] at HC
        have HE := hide (take_front HQ.out.2 (q := c :: t) (.inr ⟨c, t, rfl, hp⟩))
        rw [← HQ.out.1] at HE
        clear hC R hb hP R2 hk hp
        go_wp2_with fail
        have hd := Hd.out
        go_quiet (first | (go_at_call 255; exact Calls.quiet_of_same (HC.out _)))
        go_wp2_with fail
        go_quiet (fail)
        go_wp2_with fail
        go_ret
        exact ⟨by rw [HE.out.1, ← HX.out]; rfl, by rw [HE.out.2]; exact (HRR.out.drewN _).drewN _, grown_drewN (grown_drewN gr _) _⟩
end Go.Proofs.YtoldmigappbjcaaGreatDoor
namespace Go.GrainU
open Go.RowKit
theorem seg_grown {w w':World} {B:Nat} {ao:Option Addr} {xs:List Value} (h:Seg w ao xs) (g:w.grownBy w' (some B)) (hne:∀ b off,ao=some ⟨b,off,none⟩→b≠B):Seg w' ao xs:=by
 rcases h with h | ⟨b,off,rfl,h⟩
 ·exact .inl h
 ·refine .inr ⟨b,off,rfl,fun j hj=>?_⟩
  rw [← h j hj]
  have hb:b<w.heap.size:=by
   have h1:=h j hj
   rw [List.getElem?_eq_getElem hj] at h1
   exact World.block_lt_of_cell? w ⟨b,off+j,none⟩ h1
  have hk:=g.block b hb (fun e=>hne b off rfl (Option.some.inj e))
  simp [World.cell?,hk]
end Go.GrainU
namespace Go.Proofs.YtoldmigappbjcaaGreatDoor
open Go.RowKit Go.GrainU
theorem anyWord_any (s:ByteArray) (st:St) (B:Nat) (w:World) (h:Rd 95 w B s st) (hs:s.size≤2000) :
  Calls Tryz.prog 243 #[.pointer (some ⟨B,0,none⟩)] w fun e w'=>e=.returned (.string (lit (anyW st.r).1))∧Rd 95 w' B s ⟨(anyW st.r).2,st.n⟩∧w.grownBy w' (some B):=by
 have HN:=hide (rnext_any s st B w h hs)
 have HR:=hide (run_wbytes s st B w h hs)
 have HL:=hide (letter_byte (nxt st.r) w)
 cases hl:letter (nxt st.r) with
 | true =>
  have HA:Hid (anyW st.r=((skip st.r).takeWhile wbyte,(skip st.r).dropWhile wbyte)):=by show _=_;simp [anyW,hl]
  rw [hl] at HL
  clear hl
  go_enter Tryz.func243,Tryz.ntmps243
  go_wp2_with fail
  refine HN.out.mono ?_
  intro e w1 hh
  rw [hh.1,hh.2]
  clear hh
  go_wp2_with fail
  refine HL.out.mono ?_
  intro e w1 hh
  rw [hh.1,hh.2]
  clear hh
  go_wp2_with fail
  refine HR.out.mono ?_
  rintro e w1 ⟨rfl,h1,g1⟩
  go_wp2_with fail
  go_ret
  exact ⟨by rw [HA.out];rfl,by rw [HA.out];exact h1,g1⟩
 | false =>
  have HA:Hid (anyW st.r=([],st.r)):=by show _=_;simp [anyW,hl]
  rw [hl] at HL
  clear hl
  go_enter Tryz.func243,Tryz.ntmps243
  go_wp2_with fail
  refine HN.out.mono ?_
  intro e w1 hh
  rw [hh.1,hh.2]
  clear hh
  go_wp2_with fail
  refine HL.out.mono ?_
  intro e w1 hh
  rw [hh.1,hh.2]
  clear hh
  go_wp2_with fail
  go_ret
  exact ⟨by rw [HA.out];rfl,by rw [HA.out];exact h,World.grownBy.refl _ _⟩
set_option maxHeartbeats 1000000 in
theorem word_any (s:ByteArray) (st:St) (B:Nat) (w:World) (h:Rd 95 w B s st) (hs:s.size≤2000) :
  Calls Tryz.prog 218 #[.pointer (some ⟨B,0,none⟩)] w fun e w'=>((∃ x r,wrd st.r=.ok (x,r)∧e=.returned (.string (lit x))∧Rd 95 w' B s ⟨r,st.n⟩)∨∃ f,wrd st.r=.error f∧e=.panicked [thr s f])∧w.grownBy w' (some B):=by
 have HB:=hide (rbegin_any s st B w h hs)
 have HW:=hide (anyWord_any s st B w h hs)
 obtain ⟨⟨x,r⟩,hx⟩:∃ x,x=anyW st.r:=⟨_,rfl⟩
 rw [← hx] at HW
 simp only at HW
 have HWR:Hid (wrd st.r=if x=[] then .error (2,(skip st.r).length) else if 12<x.length then .error (7,(skip st.r).length) else .ok (x,r)):=by show _=_;unfold wrd;rw [← hx]
 clear hx
 obtain ⟨K,hK⟩:∃ K,K=pos s (skip st.r):=⟨_,rfl⟩
 rw [← hK] at HB
 have HK:=hide hK
 clear hK
 by_cases h0:x=[]
 ·have HE:Hid (wrd st.r=.error (2,(skip st.r).length)):=by show _=_;rw [HWR.out,if_pos h0]
  clear HWR
  subst h0
  unfold lit at HW
  go_enter Tryz.func218,Tryz.ntmps218
  go_wp2_with fail
  refine HB.out.mono ?_
  intro e w1 hh
  rw [hh.1,hh.2]
  clear hh
  go_wp2_with fail
  refine HW.out.mono ?_
  rintro e w1 ⟨rfl,h1,g1⟩
  go_wp2_with fail
  refine (throw_any _ _ w1).mono ?_
  intro e w2 hh
  rw [hh.1,hh.2]
  clear hh
  go_wp2_with fail
  exact ⟨rfl,.inr ⟨_,HE.out,by rw [HK.out];rfl⟩,g1⟩
 ·have HX0:Hid (lit x≠lit []):=fun e=>h0 (by have:=congrArg (fun b:ByteArray=>b.data.toList) e;simpa [lit] using this)
  have q:=word_not (l:=[]) HX0.out
  obtain ⟨L,hL⟩:∃ L,L=(lit x).size:=⟨_,rfl⟩
  have hL2:L=x.length:=by rw [hL,lit_size]
  have hL':(lit x).size=L:=hL.symm
  clear hL
  by_cases h12:12<x.length
  ·have HE:Hid (wrd st.r=.error (7,(skip st.r).length)):=by show _=_;rw [HWR.out,if_neg h0,if_pos h12]
   have h12':(12:Int)<(L:Int):=by omega
   clear HWR h0 h12 hL2
   go_enter Tryz.func218,Tryz.ntmps218
   go_wp2_with fail
   refine HB.out.mono ?_
   intro e w1 hh
   rw [hh.1,hh.2]
   clear hh
   go_wp2_with fail
   refine HW.out.mono ?_
   rintro e w1 ⟨rfl,h1,g1⟩
   go_wp2_with fail
   refine (throw_any _ _ w1).mono ?_
   intro e w2 hh
   rw [hh.1,hh.2]
   clear hh
   go_wp2_with fail
   exact ⟨rfl,.inr ⟨_,HE.out,by rw [HK.out];rfl⟩,g1⟩
  ·have HE:Hid (wrd st.r=.ok (x,r)):=by show _=_;rw [HWR.out,if_neg h0,if_neg h12]
   have h12':¬ (12:Int)<(L:Int):=by omega
   clear HWR h0 h12 hL2
   go_enter Tryz.func218,Tryz.ntmps218
   go_wp2_with fail
   refine HB.out.mono ?_
   intro e w1 hh
   rw [hh.1,hh.2]
   clear hh
   go_wp2_with fail
   refine HW.out.mono ?_
   rintro e w1 ⟨rfl,h1,g1⟩
   go_wp2_with fail
   go_ret
   exact ⟨.inl ⟨x,r,HE.out,rfl,h1⟩,g1⟩
set_option maxHeartbeats 1000000 in
theorem wordOf_any (may:List ByteArray) (bo:Option Addr) (m c:Nat) (s:ByteArray) (st:St) (B:Nat) (w:World) (h:Rd 95 w B s st) (hs:s.size≤2000) (hb:Seg w bo (wcells may)) (hm:m=may.length) (hM:m≤100) (hne:∀ b off,bo=some ⟨b,off,none⟩→b≠B) :
  Calls Tryz.prog 189 #[.pointer (some ⟨B,0,none⟩),.slice bo m c] w fun e w'=>((∃ x r,wrdOf may st.r=.ok (x,r)∧e=.returned (.string (lit x))∧Rd 95 w' B s ⟨r,st.n⟩)∨∃ f,wrdOf may st.r=.error f∧e=.panicked [thr s f])∧w.grownBy w' (some B):=by
 have HB:=hide (rbegin_any s st B w h hs)
 have HW:=hide (word_any s st B w h hs)
 have HM:=hide hm
 have HS:=hide hb
 have HNE:=hide hne
 clear hm hb hne
 obtain ⟨K,hK⟩:∃ K,K=pos s (skip st.r):=⟨_,rfl⟩
 rw [← hK] at HB
 have HK:=hide hK
 clear hK
 go_enter Tryz.func189,Tryz.ntmps189
 go_wp2_with fail
 refine HB.out.mono ?_
 intro e w1 hh
 rw [hh.1,hh.2]
 clear hh
 go_wp2_with fail
 refine HW.out.mono ?_
 rintro e w1 ⟨⟨x,r,hx,rfl,h1⟩ | ⟨f,hf,rfl⟩,g1⟩
 ·have HX:=hide hx
  have HS1:=hide (seg_grown HS.out g1 HNE.out)
  clear hx
  cases hh2:has may (lit x) with
  | true =>
   have HE:Hid (wrdOf may st.r=.ok (x,r)):=by show _=_;unfold wrdOf;rw [HX.out];simp [hh2]
   go_wp2_with fail
   refine (ncont_any may (lit x) bo m c w1 HS1.out HM.out (by omega)).mono ?_
   intro e w2 hh
   rw [hh.1,hh.2,hh2]
   clear hh
   go_wp2_with fail
   go_ret
   exact ⟨.inl ⟨x,r,HE.out,rfl,h1⟩,g1⟩
  | false =>
   have HE:Hid (wrdOf may st.r=.error (7,(skip st.r).length)):=by show _=_;unfold wrdOf;rw [HX.out];simp [hh2]
   go_wp2_with fail
   refine (ncont_any may (lit x) bo m c w1 HS1.out HM.out (by omega)).mono ?_
   intro e w2 hh
   rw [hh.1,hh.2,hh2]
   clear hh
   go_wp2_with fail
   refine (throw_any _ _ w1).mono ?_
   intro e w2 hh
   rw [hh.1,hh.2]
   clear hh
   go_wp2_with fail
   exact ⟨rfl,.inr ⟨_,HE.out,by rw [HK.out];rfl⟩,g1⟩
 ·have HE:Hid (wrdOf may st.r=.error f):=by show _=_;unfold wrdOf;rw [hf]
  clear hf
  go_wp2_with fail
  exact ⟨rfl,.inr ⟨_,HE.out,rfl⟩,g1⟩
set_option maxHeartbeats 1000000 in
theorem by_any (s:ByteArray) (st:St) (B:Nat) (w:World) (h:Rd 95 w B s st) (hs:s.size≤2000) :
  Calls Tryz.prog 219 #[.pointer (some ⟨B,0,none⟩)] w fun e w'=>((∃ r,byW st.r=.ok r∧e=.returned (.tuple #[])∧Rd 95 w' B s ⟨r,st.n⟩)∨∃ f,byW st.r=.error f∧e=.panicked [thr s f])∧w.grownBy w' (some B):=by
 have HB:=hide (rbegin_any s st B w h hs)
 have HW:=hide (anyWord_any s st B w h hs)
 obtain ⟨⟨x,r⟩,hx⟩:∃ x,x=anyW st.r:=⟨_,rfl⟩
 rw [← hx] at HW
 simp only at HW
 have HWR:Hid (byW st.r=if x=[98,121] then .ok r else .error (2,(skip st.r).length)):=by show _=_;unfold byW;rw [← hx]
 clear hx
 obtain ⟨K,hK⟩:∃ K,K=pos s (skip st.r):=⟨_,rfl⟩
 rw [← hK] at HB
 have HK:=hide hK
 clear hK
 by_cases h0:x=[98,121]
 ·have HE:Hid (byW st.r=.ok r):=by show _=_;rw [HWR.out,if_pos h0]
  clear HWR
  subst h0
  unfold lit at HW
  go_enter Tryz.func219,Tryz.ntmps219
  go_wp2_with fail
  refine HB.out.mono ?_
  intro e w1 hh
  rw [hh.1,hh.2]
  clear hh
  go_wp2_with fail
  refine HW.out.mono ?_
  rintro e w1 ⟨rfl,h1,g1⟩
  go_wp2_with fail
  refine bodyPost_end (results_none rfl _ _ _) rfl ?_
  exact ⟨.inl ⟨r,HE.out,rfl,h1⟩,g1⟩
 ·have HE:Hid (byW st.r=.error (2,(skip st.r).length)):=by show _=_;rw [HWR.out,if_neg h0]
  have HX0:Hid (lit x≠lit [98,121]):=fun e=>h0 (by have:=congrArg (fun b:ByteArray=>b.data.toList) e;simpa [lit] using this)
  have q:=word_not (l:=[98,121]) HX0.out
  clear HWR h0
  go_enter Tryz.func219,Tryz.ntmps219
  go_wp2_with fail
  refine HB.out.mono ?_
  intro e w1 hh
  rw [hh.1,hh.2]
  clear hh
  go_wp2_with fail
  refine HW.out.mono ?_
  rintro e w1 ⟨rfl,h1,g1⟩
  go_wp2_with fail
  refine (throw_any _ _ w1).mono ?_
  intro e w2 hh
  rw [hh.1,hh.2]
  clear hh
  go_wp2_with fail
  exact ⟨rfl,.inr ⟨_,HE.out,by rw [HK.out];rfl⟩,g1⟩
end Go.Proofs.YtoldmigappbjcaaGreatDoor
