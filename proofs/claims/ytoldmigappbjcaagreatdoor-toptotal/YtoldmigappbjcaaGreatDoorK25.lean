import Derived.Test.YtoldmigappbjcaaGreatDoorK02
import Derived.Test.YtoldmigappbjcaaGreatDoorK03
import Derived.Test.YtoldmigappbjcaaGreatDoorK05
import Derived.Test.YtoldmigappbjcaaGreatDoorK06
import Derived.Test.YtoldmigappbjcaaGreatDoorK17
namespace Go.GrainU
open Go.RowKit
abbrev Lb:=List (ByteArray×ByteArray)
abbrev Ln:=Lb×List (Int×Int)
abbrev Cl:=Lb×Int
def chk (e:Ex) (time:Int):Int:=if (wr e 1 0).1=0 then (if typ e=0 then (if time<0∨1000000<time then 3 else 0) else typ e) else (wr e 1 0).1
def valP (b:ByteArray) (s:Grain.Sm):Int×Bool :=
 if s.c<1 then (0,false) else if b=lit [97,118,103] then (s.t.tdiv s.c,true) else if b=lit [99,111,117,110,116] then (s.c,true) else if b=lit [102,105,114,115,116] then (s.f,true) else if b=lit [108,97,115,116] then (s.l,true)
 else if b=lit [109,97,120] then (s.mx,true) else if b=lit [109,105,110] then (s.mn,true) else if b=lit [114,105,115,101] then (s.r,true) else if b=lit [115,117,109] then (s.t,true) else (0,false)
def winV (x:Ln) (h:Hd) (time:Int):Int×Bool:=valP h.word (Grain.of (Grain.win x.2 (time-h.range) time))
def winX (x:Ln) (h:Hd) (time:Int):List Cl :=
 if says x.1 h.ms=true then (if (winV x h time).2=true then [(x.1,(winV x h time).1)] else []) else []
def winC:List Ln→Hd→Int→List Cl
 | [],_,_=>[]
 | x::r,h,time=>winX x h time++winC r h time
structure Mn where
 num:Bool
 cs:List Cl
def MC:Int:=1125899906842624
def big (v:Int):Bool:=decide (MC<v∨v < -MC)
def wkd (s:ByteArray) (a b:Int):Option Int :=
 if s=lit [43] then (if big (a+b)=true then none else some (a+b))
 else if s=lit [45] then (if big (a-b)=true then none else some (a-b))
 else if a≠0∧MC / (max a (-a))<max b (-b) then none else some (a*b)
def cellOf:List Cl→Lb→Option Int
 | [],_=>none
 | c::r,s=>if cmpS c.1 s=0 then some c.2 else cellOf r s
def cl0 (l:List Cl):Int:=(l.getD 0 ([],0)).2
def atM (m:Mn) (s:Lb):Option Int:=if m.num=true then some (cl0 m.cs) else cellOf m.cs s
def binA (a b:Mn) (w:ByteArray) (acc:List Cl):List Cl→Option (List Cl)
 | []=>some acc
 | c::r =>
  match atM a c.1,atM b c.1 with
  | some x,some y =>
   match wkd w x y with
   | none=>none
   | some v=>binA a b w (acc++[(c.1,v)]) r
  | _,_=>binA a b w acc r
def fromM (a b:Mn):Mn:=if a.num=true then b else a
def binM (a b:Mn) (w:ByteArray):Option Mn:=(binA a b w [] (fromM a b).cs).map fun l=>⟨(fromM a b).num,l⟩
def tog (w:ByteArray) (a b:Int):Int:=if w=lit [109,97,120] then max a b else if w=lit [109,105,110] then min a b else a+b
def putA (w:ByteArray) (s:Lb) (v:Int):List Cl→Option (List Cl)
 | []=>some [(s,v)]
 | c::r =>
  if cmpS c.1 s<0 then (putA w s v r).map (c::·)
  else if cmpS c.1 s=0 then (if big (tog w c.2 v)=true then none else some ((c.1,tog w c.2 v)::r))
  else some ((s,v)::c::r)
def one1 (w:ByteArray) (v:Int):Int:=if w=lit [99,111,117,110,116] then 1 else v
def allA (w:ByteArray) (ks:List ByteArray) (out:List Cl):List Cl→Option (List Cl)
 | []=>some out
 | c::r =>
  match putA w (only c.1 ks) (one1 w c.2) out with
  | none=>none
  | some out'=>allA w ks out' r
def Fine (c:Cl):Prop:=-MC≤c.2∧c.2≤MC∧c.1.length≤4
def Srt (l:List Cl):Prop:=l.Pairwise fun a b=>cmpS a.1 b.1 = -1
theorem cmpS_cases (a b:Lb):cmpS a b = -1∨(cmpS a b=0∧a=b)∨cmpS a b=1:=by rw [cmpS_L];exact cmpL_cases a b
theorem cmpS_zero (a b:Lb):cmpS a b=0↔a=b:=by rw [cmpS_L];exact cmpL_zero a b
theorem cmpS_back (a b:Lb):cmpS b a = - cmpS a b:=by rw [cmpS_L,cmpS_L];exact cmpL_back a b
theorem cmpS_trans {a b c:Lb} (h:cmpS a b = -1) (h':cmpS b c = -1):cmpS a c = -1:=by rw [cmpS_L] at *;exact cmpL_trans a b c h h'
structure SmOk (s:Grain.Sm) (k:Int):Prop where
 c:s.c=k
 t : -(1000000000*k)≤s.t∧s.t≤1000000000*k
 mn : -1000000000≤s.mn∧s.mn≤1000000000
 mx : -1000000000≤s.mx∧s.mx≤1000000000
 f : -1000000000≤s.f∧s.f≤1000000000
 l : -1000000000≤s.l∧s.l≤1000000000
 r : -(3000000000*k)≤s.r∧s.r≤3000000000*k
theorem ofN_ok (l:List (Int×Int)) (h:∀ x∈l,-1000000000≤x.2∧x.2≤1000000000):∀ k:Nat,k≤l.length→k≤500→SmOk (Grain.ofN l k) k:=by
 intro k
 induction k with
 | zero=>intro _ _;exact ⟨rfl,by simp [Grain.ofN,Grain.zero],by simp [Grain.ofN,Grain.zero],by simp [Grain.ofN,Grain.zero],by simp [Grain.ofN,Grain.zero],by simp [Grain.ofN,Grain.zero],by simp [Grain.ofN,Grain.zero]⟩
 | succ k ih =>
  intro hk h5
  have I:=ih (by omega) (by omega)
  have hv : -1000000000≤Grain.vl l k∧Grain.vl l k≤1000000000:=by
   have:Grain.vl l k=(l[k]'(by omega)).2:=by simp [Grain.vl,List.getD,List.getElem?_eq_getElem (show k<l.length by omega)]
   rw [this]
   exact h _ (List.getElem_mem _)
  obtain ⟨v,e⟩:∃ v,v=Grain.vl l k:=⟨_,rfl⟩
  rw [← e] at hv
  have hs:Grain.ofN l (k+1)=Grain.join (Grain.ofN l k) (Grain.one v):=by rw [e];rfl
  rw [hs]
  by_cases h0:k=0
  ·subst h0
   rw [Grain.join_zero_left _ _ I.c]
   refine ⟨rfl,?_,?_,?_,?_,?_,?_⟩ <;> simp only [Grain.one] <;> omega
  ·have hc:=I.c
   obtain ⟨t1,t2⟩:=I.t
   obtain ⟨n1,n2⟩:=I.mn
   obtain ⟨x1,x2⟩:=I.mx
   obtain ⟨f1,f2⟩:=I.f
   obtain ⟨l1,l2⟩:=I.l
   obtain ⟨r1,r2⟩:=I.r
   rw [Grain.join_full _ _ (by omega) (by simp [Grain.one])]
   have hr : -2000000000≤Grain.rise (Grain.ofN l k).l v∧Grain.rise (Grain.ofN l k).l v≤2000000000:=by
    unfold Grain.rise
    split
    ·omega
    ·rw [Grain.wr_in (by omega) (by omega)];omega
   obtain ⟨q,hq⟩:∃ q,q=Grain.rise (Grain.ofN l k).l v:=⟨_,rfl⟩
   rw [← hq] at hr
   refine ⟨?_,?_,?_,?_,?_,?_,?_⟩
   ·show Grain.wr ((Grain.ofN l k).c+1)=((k+1:Nat):Int)
    rw [hc,Grain.wr_in (by omega) (by omega)];omega
   ·show -(1000000000*((k+1:Nat):Int))≤Grain.wr ((Grain.ofN l k).t+v)∧Grain.wr ((Grain.ofN l k).t+v)≤1000000000*((k+1:Nat):Int)
    rw [Grain.wr_in (by omega) (by omega)];omega
   ·show -1000000000≤(if v<(Grain.ofN l k).mn then v else (Grain.ofN l k).mn)∧(if v<(Grain.ofN l k).mn then v else (Grain.ofN l k).mn)≤1000000000
    split <;> omega
   ·show -1000000000≤(if v > (Grain.ofN l k).mx then v else (Grain.ofN l k).mx)∧(if v > (Grain.ofN l k).mx then v else (Grain.ofN l k).mx)≤1000000000
    split <;> omega
   ·exact ⟨f1,f2⟩
   ·exact hv
   ·show -(3000000000*((k+1:Nat):Int))≤Grain.wr (Grain.wr ((Grain.ofN l k).r+Grain.rise (Grain.ofN l k).l v)+0)∧Grain.wr (Grain.wr ((Grain.ofN l k).r+Grain.rise (Grain.ofN l k).l v)+0)≤3000000000*((k+1:Nat):Int)
    rw [← hq,Grain.wr_in (x:=(Grain.ofN l k).r+q) (by omega) (by omega),Grain.wr_in (by omega) (by omega)]
    omega
theorem of_ok {l:List (Int×Int)} (h:∀ x∈l,-1000000000≤x.2∧x.2≤1000000000) (h5:l.length≤500):SmOk (Grain.of l) l.length:=ofN_ok l h _ (Nat.le_refl _) h5
def W1:Int:=1500000000000
theorem tdiv_bd {a b k:Int} (hb:1≤b) (h1 : -k≤a) (h2:a≤k) : -k≤a.tdiv b∧a.tdiv b≤k:=by
 have hk:0≤k:=by omega
 rcases Int.le_total 0 a with h | h
 ·have e1:=Int.tdiv_eq_ediv_of_nonneg (b:=b) h
  rw [e1]
  have e2:a / b≤a:=Int.ediv_le_self b h
  have e3:0≤a / b:=Int.ediv_nonneg h (by omega)
  omega
 ·have e1:a.tdiv b = -((-a).tdiv b):=by rw [Int.neg_tdiv];omega
  have e4:=Int.tdiv_eq_ediv_of_nonneg (b:=b) (show 0≤-a by omega)
  rw [e1,e4]
  have e2:(-a) / b≤-a:=Int.ediv_le_self b (by omega)
  have e3:0≤(-a) / b:=Int.ediv_nonneg (by omega) (by omega)
  omega
theorem valP_bd {s:Grain.Sm} {k:Int} (h:SmOk s k) (hk:k≤500) (h0:0≤k) (b:ByteArray) : -W1≤(valP b s).1∧(valP b s).1≤W1:=by
 obtain ⟨hc,⟨t1,t2⟩,⟨n1,n2⟩,⟨x1,x2⟩,⟨f1,f2⟩,⟨l1,l2⟩,⟨r1,r2⟩⟩:=h
 unfold valP W1
 split
 ·simp
 ·have:=tdiv_bd (a:=s.t) (b:=s.c) (k:=1500000000000) (by omega) (by omega) (by omega)
  repeat' split
  all_goals first | exact this | simp only [] ;omega
open Go.RowKit
theorem list_ne {x:ByteArray} {l:List UInt8} (h:¬ x=lit l):(x.toList == l)=false:=by
 have:=(word_ne h).2
 rw [show (lit l).toList=l from ByteArray.toList_mk l] at this
 exact this
end Go.GrainU
namespace Go.Proofs.YtoldmigappbjcaaGreatDoor
open Go.RowKit Go.GrainU
set_option maxHeartbeats 1000000 in
theorem mvalue_avg (s:Grain.Sm) (w:World) (h:1≤s.c) (h0 : -9223372036854775808≤s.t) (h1:s.t≤9223372036854775807) :
  Calls Tryz.prog 30 #[.string ⟨#[97,118,103]⟩,.agg #[.int .i64 s.c,.int .i64 s.t,.int .i64 s.mn,.int .i64 s.mx,.int .i64 s.f,.int .i64 s.l,.int .i64 s.r]] w fun e w'=>e=.returned (.tuple #[.int .i64 (s.t.tdiv s.c),.bool true])∧Below w.heap.size w w':=by
 have hq:=wrap_i64_tdiv s.t s.c h0 h1 h
 have hz:(s.c == 0)=false:=by simp;omega
 go_enter Tryz.func30,Tryz.ntmps30
 go_wp2
 exact bodyPost_ret (v:=.tuple #[.int .i64 (s.t.tdiv s.c),.bool true]) (by simp [results,Tryz.results30,go_sem]) rfl ⟨rfl,by go_grown⟩
set_option maxHeartbeats 1000000 in
theorem mvalue_count (s:Grain.Sm) (w:World) (h:1≤s.c) :
  Calls Tryz.prog 30 #[.string ⟨#[99,111,117,110,116]⟩,.agg #[.int .i64 s.c,.int .i64 s.t,.int .i64 s.mn,.int .i64 s.mx,.int .i64 s.f,.int .i64 s.l,.int .i64 s.r]] w fun e w'=>e=.returned (.tuple #[.int .i64 (s.c),.bool true])∧Below w.heap.size w w':=by
 go_enter Tryz.func30,Tryz.ntmps30
 go_wp2
 exact bodyPost_ret (v:=.tuple #[.int .i64 (s.c),.bool true]) (by simp [results,Tryz.results30,go_sem]) rfl ⟨rfl,by go_grown⟩
set_option maxHeartbeats 1000000 in
theorem mvalue_first (s:Grain.Sm) (w:World) (h:1≤s.c) :
  Calls Tryz.prog 30 #[.string ⟨#[102,105,114,115,116]⟩,.agg #[.int .i64 s.c,.int .i64 s.t,.int .i64 s.mn,.int .i64 s.mx,.int .i64 s.f,.int .i64 s.l,.int .i64 s.r]] w fun e w'=>e=.returned (.tuple #[.int .i64 (s.f),.bool true])∧Below w.heap.size w w':=by
 go_enter Tryz.func30,Tryz.ntmps30
 go_wp2
 exact bodyPost_ret (v:=.tuple #[.int .i64 (s.f),.bool true]) (by simp [results,Tryz.results30,go_sem]) rfl ⟨rfl,by go_grown⟩
set_option maxHeartbeats 1000000 in
theorem mvalue_last (s:Grain.Sm) (w:World) (h:1≤s.c) :
  Calls Tryz.prog 30 #[.string ⟨#[108,97,115,116]⟩,.agg #[.int .i64 s.c,.int .i64 s.t,.int .i64 s.mn,.int .i64 s.mx,.int .i64 s.f,.int .i64 s.l,.int .i64 s.r]] w fun e w'=>e=.returned (.tuple #[.int .i64 (s.l),.bool true])∧Below w.heap.size w w':=by
 go_enter Tryz.func30,Tryz.ntmps30
 go_wp2
 exact bodyPost_ret (v:=.tuple #[.int .i64 (s.l),.bool true]) (by simp [results,Tryz.results30,go_sem]) rfl ⟨rfl,by go_grown⟩
set_option maxHeartbeats 1000000 in
theorem mvalue_max (s:Grain.Sm) (w:World) (h:1≤s.c) :
  Calls Tryz.prog 30 #[.string ⟨#[109,97,120]⟩,.agg #[.int .i64 s.c,.int .i64 s.t,.int .i64 s.mn,.int .i64 s.mx,.int .i64 s.f,.int .i64 s.l,.int .i64 s.r]] w fun e w'=>e=.returned (.tuple #[.int .i64 (s.mx),.bool true])∧Below w.heap.size w w':=by
 go_enter Tryz.func30,Tryz.ntmps30
 go_wp2
 exact bodyPost_ret (v:=.tuple #[.int .i64 (s.mx),.bool true]) (by simp [results,Tryz.results30,go_sem]) rfl ⟨rfl,by go_grown⟩
set_option maxHeartbeats 1000000 in
theorem mvalue_min (s:Grain.Sm) (w:World) (h:1≤s.c) :
  Calls Tryz.prog 30 #[.string ⟨#[109,105,110]⟩,.agg #[.int .i64 s.c,.int .i64 s.t,.int .i64 s.mn,.int .i64 s.mx,.int .i64 s.f,.int .i64 s.l,.int .i64 s.r]] w fun e w'=>e=.returned (.tuple #[.int .i64 (s.mn),.bool true])∧Below w.heap.size w w':=by
 go_enter Tryz.func30,Tryz.ntmps30
 go_wp2
 exact bodyPost_ret (v:=.tuple #[.int .i64 (s.mn),.bool true]) (by simp [results,Tryz.results30,go_sem]) rfl ⟨rfl,by go_grown⟩
set_option maxHeartbeats 1000000 in
theorem mvalue_rise (s:Grain.Sm) (w:World) (h:1≤s.c) :
  Calls Tryz.prog 30 #[.string ⟨#[114,105,115,101]⟩,.agg #[.int .i64 s.c,.int .i64 s.t,.int .i64 s.mn,.int .i64 s.mx,.int .i64 s.f,.int .i64 s.l,.int .i64 s.r]] w fun e w'=>e=.returned (.tuple #[.int .i64 (s.r),.bool true])∧Below w.heap.size w w':=by
 go_enter Tryz.func30,Tryz.ntmps30
 go_wp2
 exact bodyPost_ret (v:=.tuple #[.int .i64 (s.r),.bool true]) (by simp [results,Tryz.results30,go_sem]) rfl ⟨rfl,by go_grown⟩
set_option maxHeartbeats 1000000 in
theorem mvalue_sum (s:Grain.Sm) (w:World) (h:1≤s.c) :
  Calls Tryz.prog 30 #[.string ⟨#[115,117,109]⟩,.agg #[.int .i64 s.c,.int .i64 s.t,.int .i64 s.mn,.int .i64 s.mx,.int .i64 s.f,.int .i64 s.l,.int .i64 s.r]] w fun e w'=>e=.returned (.tuple #[.int .i64 (s.t),.bool true])∧Below w.heap.size w w':=by
 go_enter Tryz.func30,Tryz.ntmps30
 go_wp2
 exact bodyPost_ret (v:=.tuple #[.int .i64 (s.t),.bool true]) (by simp [results,Tryz.results30,go_sem]) rfl ⟨rfl,by go_grown⟩
set_option maxHeartbeats 1000000 in
theorem mvalue_below (s:Grain.Sm) (x:ByteArray) (w:World) (h:s.c<1) :
  Calls Tryz.prog 30 #[.string x,.agg #[.int .i64 s.c,.int .i64 s.t,.int .i64 s.mn,.int .i64 s.mx,.int .i64 s.f,.int .i64 s.l,.int .i64 s.r]] w fun e w'=>e=.returned (.tuple #[.int .i64 0,.bool false])∧Below w.heap.size w w':=by
 go_enter Tryz.func30,Tryz.ntmps30
 go_wp2
 exact bodyPost_ret (v:=.tuple #[.int .i64 0,.bool false]) (by simp [results,Tryz.results30,go_sem]) rfl ⟨rfl,by go_grown⟩
set_option maxHeartbeats 1000000 in
theorem mvalue_other (s:Grain.Sm) (x:ByteArray) (w:World) (h:1≤s.c) (h0:(x.toList == [97,118,103])=false) (h1:(x.toList == [99,111,117,110,116])=false) (h2:(x.toList == [102,105,114,115,116])=false) (h3:(x.toList == [108,97,115,116])=false) (h4:(x.toList == [109,97,120])=false) (h5:(x.toList == [109,105,110])=false) (h6:(x.toList == [114,105,115,101])=false) (h7:(x.toList == [115,117,109])=false) :
  Calls Tryz.prog 30 #[.string x,.agg #[.int .i64 s.c,.int .i64 s.t,.int .i64 s.mn,.int .i64 s.mx,.int .i64 s.f,.int .i64 s.l,.int .i64 s.r]] w fun e w'=>e=.returned (.tuple #[.int .i64 0,.bool false])∧Below w.heap.size w w':=by
 go_enter Tryz.func30,Tryz.ntmps30
 go_wp2
 exact bodyPost_ret (v:=.tuple #[.int .i64 0,.bool false]) (by simp [results,Tryz.results30,go_sem]) rfl ⟨rfl,by go_grown⟩
theorem mvalue_any (s:Grain.Sm) (x:ByteArray) (w:World) (t0 : -9223372036854775808≤s.t) (t1:s.t≤9223372036854775807) :
  Calls Tryz.prog 30 #[.string x,.agg #[.int .i64 s.c,.int .i64 s.t,.int .i64 s.mn,.int .i64 s.mx,.int .i64 s.f,.int .i64 s.l,.int .i64 s.r]] w fun e w'=>e=.returned (.tuple #[.int .i64 (valP x s).1,.bool (valP x s).2])∧Below w.heap.size w w':=by
 by_cases hc:s.c<1
 ·have e:valP x s=(0,false):=by simp [valP,hc]
  rw [e]
  exact mvalue_below s x w hc
 have h:1≤s.c:=by omega
 by_cases h0:x=lit [97,118,103]
 ·have e:valP x s=(s.t.tdiv s.c,true):=by rw [valP,if_neg hc,if_pos h0]
  rw [e,h0]
  exact mvalue_avg s w h t0 t1
 by_cases h1:x=lit [99,111,117,110,116]
 ·have e:valP x s=(s.c,true):=by rw [valP,if_neg hc,if_neg h0,if_pos h1]
  rw [e,h1]
  exact mvalue_count s w h
 by_cases h2:x=lit [102,105,114,115,116]
 ·have e:valP x s=(s.f,true):=by rw [valP,if_neg hc,if_neg h0,if_neg h1,if_pos h2]
  rw [e,h2]
  exact mvalue_first s w h
 by_cases h3:x=lit [108,97,115,116]
 ·have e:valP x s=(s.l,true):=by rw [valP,if_neg hc,if_neg h0,if_neg h1,if_neg h2,if_pos h3]
  rw [e,h3]
  exact mvalue_last s w h
 by_cases h4:x=lit [109,97,120]
 ·have e:valP x s=(s.mx,true):=by rw [valP,if_neg hc,if_neg h0,if_neg h1,if_neg h2,if_neg h3,if_pos h4]
  rw [e,h4]
  exact mvalue_max s w h
 by_cases h5:x=lit [109,105,110]
 ·have e:valP x s=(s.mn,true):=by rw [valP,if_neg hc,if_neg h0,if_neg h1,if_neg h2,if_neg h3,if_neg h4,if_pos h5]
  rw [e,h5]
  exact mvalue_min s w h
 by_cases h6:x=lit [114,105,115,101]
 ·have e:valP x s=(s.r,true):=by rw [valP,if_neg hc,if_neg h0,if_neg h1,if_neg h2,if_neg h3,if_neg h4,if_neg h5,if_pos h6]
  rw [e,h6]
  exact mvalue_rise s w h
 by_cases h7:x=lit [115,117,109]
 ·have e:valP x s=(s.t,true):=by rw [valP,if_neg hc,if_neg h0,if_neg h1,if_neg h2,if_neg h3,if_neg h4,if_neg h5,if_neg h6,if_pos h7]
  rw [e,h7]
  exact mvalue_sum s w h
 ·have e:valP x s=(0,false):=by rw [valP,if_neg hc,if_neg h0,if_neg h1,if_neg h2,if_neg h3,if_neg h4,if_neg h5,if_neg h6,if_neg h7]
  rw [e]
  exact mvalue_other s x w h (list_ne h0) (list_ne h1) (list_ne h2) (list_ne h3) (list_ne h4) (list_ne h5) (list_ne h6) (list_ne h7)
end Go.Proofs.YtoldmigappbjcaaGreatDoor
