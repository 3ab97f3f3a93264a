import Derived.Deep.CutRange
import Derived.Lib.SlBuf
import Derived.Test.YtoldmigappbjcaaGreatDoorBaseExact01
import Derived.Test.YtoldmigappbjcaaGreatDoorK01
import Derived.Test.YtoldmigappbjcaaGreatDoorK05
import Derived.Test.YtoldmigappbjcaaGreatDoorK25
import Derived.Test.YtoldmigappbjcaaGreatDoorK26
import Derived.Test.YtoldmigappbjcaaGreatDoorK27
namespace Go.GrainU
open Go.RowKit
theorem seg_of {α:Type} {W:World} {b off len c:Nat} (hc:0<c) (f:Nat→α) (cell:α→List Value) (hcl:∀ x,(cell x).length=c)
  (h:∀ i,i<len→∀ j,j<c→W.cell? ⟨b,off+(i*c+j),none⟩=(cell (f i))[j]?):Seg W (some ⟨b,off,none⟩) ((List.range len).flatMap fun i=>cell (f i)):=by
 refine .inr ⟨b,off,rfl,fun j hj=>?_⟩
 have hl:∀ n,((List.range n).flatMap fun i=>cell (f i)).length=n*c:=by
  intro n
  induction n with
  | zero=>simp
  | succ n ih=>rw [List.range_succ,List.flatMap_append,List.length_append,ih];simp [hcl,Nat.add_mul]
 rw [hl] at hj
 have hat:∀ n i,i<n→∀ q,q<c→((List.range n).flatMap fun i=>cell (f i))[i*c+q]?=(cell (f i))[q]?:=by
  intro n
  induction n with
  | zero=>intro i hi;omega
  | succ n ih =>
   intro i hi q hq
   rw [List.range_succ,List.flatMap_append]
   have hle:(i+1)*c≤(n+1)*c:=Nat.mul_le_mul_right c (by omega)
   rw [Nat.add_mul] at hle
   by_cases e:i<n
   ·have h2:(i+1)*c≤n*c:=Nat.mul_le_mul_right c (by omega)
    rw [Nat.add_mul] at h2
    rw [List.getElem?_append_left (by rw [hl];omega)]
    exact ih i e q hq
   ·have e':i=n:=by omega
    subst e'
    rw [List.getElem?_append_right (by rw [hl];omega),hl,show i*c+q-i*c=q from by omega]
    simp
 have hq:j%c<c:=Nat.mod_lt _ hc
 have hd:j / c<len:=Nat.div_lt_of_lt_mul (by rw [Nat.mul_comm];exact hj)
 have hm:j / c*c+j%c=j:=by rw [Nat.mul_comm];exact Nat.div_add_mod j c
 have h1:=hat len (j / c) hd (j%c) hq
 have h2:=h (j / c) hd (j%c) hq
 rw [hm] at h1 h2
 rw [h1,h2]
open Go.RowKit
theorem scells_take (l:List (Int×Int)):∀ m,scells (l.take m)=(scells l).take (m*2):=by
 induction l with
 | nil=>intro m;simp [scells]
 | cons s r ih =>
  intro m
  match m with
  | 0=>simp [scells]
  | m+1=>rw [show (m+1)*2=m*2+1+1 from by omega];simp [scells,ih]
open Go.RowKit
def cmpI (a b:Int):Int:=if a<b then -1 else if b<a then 1 else 0
end Go.GrainU
namespace Go.Proofs.YtoldmigappbjcaaGreatDoor
open Go.RowKit Go.GrainU
set_option maxHeartbeats 1000000 in
theorem isnan_any (a:Int) (w:World):Calls Tryz.prog 114 #[.int .i64 a] w fun e w'=>e=.returned (.bool false)∧w'=w:=by
 have h:(a != a)=false:=by simp
 go_enter Tryz.func114,Tryz.ntmps114
 go_wp2
 go_ret
 exact ⟨rfl,rfl⟩
set_option maxHeartbeats 1000000 in
theorem cmpint_any (a b:Int) (w:World):Calls Tryz.prog 73 #[.int .i64 a,.int .i64 b] w fun e w'=>e=.returned (.int .i64 (cmpI a b))∧w'=w:=by
 obtain ⟨R,hR⟩:∃ R,R=cmpI a b:=⟨_,rfl⟩
 rw [← hR]
 have HR:Hid (R=if a<b then -1 else if b<a then 1 else 0):=hR
 clear hR
 go_enter Tryz.func73,Tryz.ntmps73
 go_wp2_with fail
 refine (isnan_any _ _).mono ?_
 intro e w1 hh
 rw [hh.1,hh.2]
 clear hh
 go_wp2_with fail
 refine (isnan_any _ _).mono ?_
 intro e w1 hh
 rw [hh.1,hh.2]
 clear hh
 go_wp2
 all_goals
  go_ret
  exact ⟨ret_int (by rw [HR.out];(repeat' split) <;> omega),rfl⟩
set_option maxHeartbeats 1000000 in
theorem mahead1_any (t v T:Int) (w:World):Calls Tryz.prog 72 #[.agg #[.int .i64 t,.int .i64 v],.int .i64 T] w fun e w'=>e=.returned (.int .i64 (cmpI t T))∧Below w.heap.size w w':=by
 obtain ⟨R,hR⟩:∃ R,R=cmpI t T:=⟨_,rfl⟩
 rw [← hR]
 have HR:=hide hR
 clear hR
 go_enter Tryz.func72,Tryz.ntmps72
 go_wp2_with fail
 refine (cmpint_any _ _ _).mono ?_
 intro e w1 hh
 rw [hh.1,hh.2,← HR.out]
 clear hh
 go_wp2
 go_ret
 exact ⟨rfl,(Below.refl _ _).alloc (Nat.le_refl _) _⟩
set_option maxHeartbeats 4000000 in
set_option maxRecDepth 100000 in
theorem mbs_any (l:List (Int×Int)) (T:Int) (ao:Option Addr) (n c p:Nat) (w:World) (hs:Seg w ao (scells l)) (hn:n=l.length) (hn4:n≤1000000) (hp:p≤n) (hbd:∀ k,k<n→(Grain.tm l k<T↔k<p)) :
  Calls Tryz.prog 71 #[.slice ao n c,.int .i64 T,.func (.func 72) #[] #[]] w fun e w'=>(∃ b,e=.returned (.tuple #[.int .i64 p,.bool b]))∧Below w.heap.size w w':=by
 have HN:=hide hn
 have HB:=hide hbd
 clear hn hbd
 go_enter Tryz.func71,Tryz.ntmps71
 go_wp2
 go_loopw [9,10] (fun s9 s10 wr=>∃ lo hi:Nat,s9=.int .i64 lo∧s10=.int .i64 hi∧lo≤p∧p≤hi∧hi≤n∧Below w.heap.size w wr) (fun s9 s10 _=>(intOf s10).toNat-(intOf s9).toNat)
 case atStart=>exact ⟨0,n,rfl,rfl,Nat.zero_le _,hp,Nat.le_refl _,Below.refl _ _⟩
 case round =>
  obtain ⟨lo,hi,rfl,rfl,hlo,hhi,hin,bel⟩:=hrel
  have hsz:=bel.size
  by_cases hlt:lo<hi
  ·have hkl:(lo+hi) / 2<l.length:=by rw [← HN.out];omega
   obtain ⟨b,off,rfl,hcell⟩:=hs.sample hkl
   have hb:b<w.heap.size:=World.block_lt_of_cell? w _ (hcell _ hkl).1
   obtain ⟨t,ht⟩:∃ t,t=Grain.tm l ((lo+hi) / 2):=⟨_,rfl⟩
   obtain ⟨v,hv⟩:∃ v,v=Grain.vl l ((lo+hi) / 2):=⟨_,rfl⟩
   have c0:wr.cell? ⟨b,off+(lo+hi) / 2*2,none⟩=some (.int .i64 t):=by rw [ht];exact (bel.cell (by exact hb)).trans (hcell _ hkl).1
   have c1:wr.cell? ⟨b,off+(lo+hi) / 2*2+1,none⟩=some (.int .i64 v):=by rw [hv];exact (bel.cell (by exact hb)).trans (hcell _ hkl).2
   have HT:=hide ht
   clear hcell ht hv hkl
   go_wp2_with fail
   refine (mahead1_any t v T wr).mono ?_
   rintro e w1 ⟨rfl,b1⟩
   have bel1:Below w.heap.size w w1:=bel.trans (b1.mono hsz)
   have hkey:=HB.out ((lo+hi) / 2) (by omega)
   rw [← HT.out] at hkey
   clear c0 c1 b1 bel HT
   by_cases hc:t<T
   ·have hC:cmpI t T = -1:=by simp [cmpI,hc]
    have hp2:=hkey.1 hc
    rw [hC]
    clear hC hkey hc
    go_wp2
    go_roundw
    case rel=>exact ⟨(lo+hi) / 2+1,hi,by rw [show ((lo:Int)+(hi:Int)) / 2+1=(((lo+hi) / 2+1:Nat):Int) by omega],rfl,by omega,hhi,hin,bel1⟩
    case measure=>simp [intOf];omega
   ·have hC:∃ C,C=cmpI t T∧¬ C<0:=⟨_,rfl,by unfold cmpI;rw [if_neg hc];split <;> omega⟩
    obtain ⟨C,hC1,hC2⟩:=hC
    have hp2:¬ (lo+hi) / 2<p:=fun h=>hc (hkey.2 h)
    rw [← hC1]
    clear hC1 hkey hc
    go_wp2
    go_roundw
    case rel=>exact ⟨lo,(lo+hi) / 2,rfl,by rw [show ((lo:Int)+(hi:Int)) / 2=(((lo+hi) / 2:Nat):Int) by omega],hlo,by omega,by omega,bel1⟩
    case measure=>simp [intOf];omega
  ·have e1:lo=p:=by omega
   have e2:hi=p:=by omega
   subst e1
   subst e2
   by_cases hpn:hi<n
   ·have hkl:hi<l.length:=by rw [← HN.out];omega
    obtain ⟨b,off,rfl,hcell⟩:=hs.sample hkl
    have hb:b<w.heap.size:=World.block_lt_of_cell? w _ (hcell _ hkl).1
    obtain ⟨t,ht⟩:∃ t,t=Grain.tm l hi:=⟨_,rfl⟩
    obtain ⟨v,hv⟩:∃ v,v=Grain.vl l hi:=⟨_,rfl⟩
    have c0:wr.cell? ⟨b,off+hi*2,none⟩=some (.int .i64 t):=by rw [ht];exact (bel.cell (by exact hb)).trans (hcell _ hkl).1
    have c1:wr.cell? ⟨b,off+hi*2+1,none⟩=some (.int .i64 v):=by rw [hv];exact (bel.cell (by exact hb)).trans (hcell _ hkl).2
    clear hcell ht hv hkl
    go_wp2_with fail
    refine (mahead1_any t v T wr).mono ?_
    rintro e w1 ⟨rfl,b1⟩
    have bel1:Below w.heap.size w w1:=bel.trans (b1.mono hsz)
    generalize cmpI t T=C
    clear c0 c1 b1 bel
    go_wp2
    all_goals
     go_ret2
     exact ⟨⟨_,rfl⟩,bel1⟩
   ·go_wp2
    go_ret2
    exact ⟨⟨_,rfl⟩,bel⟩
theorem mahead_any (l:List (Int×Int)) (T:Int) (ao:Option Addr) (n c p:Nat) (w:World) (hs:Seg w ao (scells l)) (hn:n=l.length) (hn4:n≤1000000) (hp:p≤n) (hbd:∀ k,k<n→(Grain.tm l k<T↔k<p)) :
  Calls Tryz.prog 42 #[.slice ao n c,.int .i64 T] w fun e w'=>e=.returned (.int .i64 p)∧Below w.heap.size w w':=by
 have HN:=hide hn
 have HB:=hide hbd
 clear hn hbd
 go_enter Tryz.func42,Tryz.ntmps42
 go_wp2_with fail
 refine (mbs_any l T ao n c p w hs HN.out hn4 hp HB.out).mono ?_
 rintro e w1 ⟨⟨b,rfl⟩,b1⟩
 go_wp2
 go_ret
 exact ⟨rfl,b1⟩
end Go.Proofs.YtoldmigappbjcaaGreatDoor
namespace Go.GrainU
open Go.RowKit
theorem tm_mono {l:List (Int×Int)} (h:Grain.Right l):∀ j k,j≤k→k<l.length→Grain.tm l j≤Grain.tm l k:=by
 intro j k
 induction k with
 | zero=>intro hj _;rw [show j=0 by omega];exact Int.le_refl _
 | succ k ih =>
  intro hj hk
  by_cases e:j=k+1
  ·rw [e];exact Int.le_refl _
  ·have h1:=ih (by omega) (by omega)
   have h2:=h.rise k hk
   omega
theorem bdry {l:List (Int×Int)} (h:Grain.Right l) (T:Int):∃ p,p≤l.length∧∀ k,k<l.length→(Grain.tm l k<T↔k<p):=by
 have hm:=tm_mono h
 have:∀ n,n≤l.length→∃ p,p≤n∧∀ k,k<n→(Grain.tm l k<T↔k<p):=by
  intro n
  induction n with
  | zero=>intro _;exact ⟨0,Nat.le_refl _,fun k hk=>by omega⟩
  | succ n ih =>
   intro hn
   obtain ⟨p,hp,hk⟩:=ih (by omega)
   by_cases hc:Grain.tm l n<T
   ·refine ⟨n+1,Nat.le_refl _,fun k hk'=>⟨fun _=>hk',fun _=>?_⟩⟩
    have:=hm k n (by omega) (by omega)
    omega
   ·refine ⟨p,by omega,fun k hk'=>?_⟩
    by_cases e:k=n
    ·subst e
     exact ⟨fun h=>absurd h hc,fun h=>by omega⟩
    ·exact hk k (by omega)
 obtain ⟨p,hp,hk⟩:=this l.length (Nat.le_refl _)
 exact ⟨p,hp,hk⟩
theorem tm_get {l:List (Int×Int)} {k:Nat} (hk:k<l.length):Grain.tm l k=(l[k]).1:=by simp [Grain.tm,List.getD,List.getElem?_eq_getElem hk]
theorem win_cut {l:List (Int×Int)} {T1 T2:Int} {p1 p2:Nat} (hT:T1≤T2) (h1:p1≤l.length) (h2:p2≤l.length) (b1:∀ k,k<l.length→(Grain.tm l k<T1↔k<p1)) (b2:∀ k,k<l.length→(Grain.tm l k<T2↔k<p2)) :
  p1≤p2∧(l.take p2).drop p1=Grain.win l T1 T2:=by
 have h12:p1≤p2:=by
  rcases Nat.lt_or_ge p2 p1 with h | h
  ·have a1:=(b1 p2 (by omega)).2 h
   have a2:=(b2 p2 (by omega)).1 (by omega)
   omega
  ·exact h
 refine ⟨h12,?_⟩
 have hl:l=(l.take p2).take p1++((l.take p2).drop p1++l.drop p2):=by
  rw [← List.append_assoc,List.take_append_drop,List.take_append_drop]
 unfold Grain.win
 conv=>rhs;rw [hl]
 rw [List.filter_append,List.filter_append]
 have f1:((l.take p2).take p1).filter (fun x=>decide (T1≤x.1∧x.1<T2))=[]:=by
  rw [List.filter_eq_nil_iff]
  intro x hx
  obtain ⟨k,hk,rfl⟩:=List.mem_iff_getElem.1 hx
  simp at hk
  have:=(b1 k (by omega)).2 (by omega)
  rw [tm_get (by omega)] at this
  simp
  omega
 have f2:((l.take p2).drop p1).filter (fun x=>decide (T1≤x.1∧x.1<T2))=(l.take p2).drop p1:=by
  rw [List.filter_eq_self]
  intro x hx
  obtain ⟨k,hk,rfl⟩:=List.mem_iff_getElem.1 hx
  simp at hk
  have a1:=(b2 (p1+k) (by omega)).2 (by omega)
  have a2:¬ Grain.tm l (p1+k)<T1:=fun h=>by have:=(b1 (p1+k) (by omega)).1 h;omega
  rw [tm_get (by omega)] at a1 a2
  simp
  omega
 have f3:(l.drop p2).filter (fun x=>decide (T1≤x.1∧x.1<T2))=[]:=by
  rw [List.filter_eq_nil_iff]
  intro x hx
  obtain ⟨k,hk,rfl⟩:=List.mem_iff_getElem.1 hx
  simp at hk
  have a2:¬ Grain.tm l (p2+k)<T2:=fun h=>by have:=(b2 (p2+k) (by omega)).1 h;omega
  rw [tm_get (by omega)] at a2
  simp
  omega
 rw [f1,f2,f3]
 simp
theorem scells_drop (l:List (Int×Int)):∀ k,scells (l.drop k)=(scells l).drop (k*2):=by
 induction l with
 | nil=>intro k;simp [scells]
 | cons s r ih =>
  intro k
  match k with
  | 0=>simp
  | k+1=>rw [show (k+1)*2=k*2+1+1 from by omega];simp [scells,ih]
def cutA (pa:Option Addr) (pc p:Nat):Option Addr:=if pc=p then pa else pa.map (·.add (p*2))
theorem seg_cut {w:World} {pa:Option Addr} {l:List (Int×Int)} {pc p1 p2:Nat} (h:Seg w pa (scells l)) (hc:l.length≤pc) (h12:p1≤p2) (h2:p2≤l.length):Seg w (cutA pa pc p1) (scells ((l.take p2).drop p1)):=by
 by_cases hp:p1=p2
 ·left
  rw [List.drop_eq_nil_of_le (by simp;omega)];rfl
 ·rcases h with h | ⟨b,off,rfl,h⟩
  ·have:=scells_length l;rw [h] at this;simp at this;omega
  ·have e:cutA (some ⟨b,off,none⟩) pc p1=some ⟨b,off+p1*2,none⟩:=by
    unfold cutA
    rw [if_neg (by omega)]
    simp only [Option.map_some]
    rw [show (⟨b,off,none⟩:Addr).add (p1*2)=⟨b,off+p1*2,none⟩ from by unfold Addr.add;split <;> simp_all]
   rw [e]
   refine .inr ⟨b,off+p1*2,rfl,fun j hj=>?_⟩
   have hs:=scells_length l
   rw [scells_drop,scells_take] at hj ⊢
   simp at hj
   rw [Nat.add_assoc,h _ (by omega),List.getElem?_drop,List.getElem?_take,if_pos (by omega)]
theorem lns_take {l:List LT} {k:Nat} (h:k<l.length):lns (l.take (k+1))=lns (l.take k)++[(lt l k).ln]:=by rw [take_lt h];simp [lns]
end Go.GrainU
namespace Go.Proofs.YtoldmigappbjcaaGreatDoor
open Go.RowKit Go.GrainU
end Go.Proofs.YtoldmigappbjcaaGreatDoor
namespace Go.GrainU
open Go.RowKit
structure LnRt (x:LT):Prop where
 ser:x.ser.length≤4
 smp:Grain.Right x.smp
end Go.GrainU
namespace Go.Proofs.YtoldmigappbjcaaGreatDoor
open Go.RowKit Go.GrainU
end Go.Proofs.YtoldmigappbjcaaGreatDoor
