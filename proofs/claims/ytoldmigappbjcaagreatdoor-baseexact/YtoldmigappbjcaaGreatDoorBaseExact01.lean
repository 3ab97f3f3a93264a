import Derived.Deep.Onto
import Derived.Deep.RegionHeld3
import Derived.Test.YtoldmigappbjcaaGreatDoorK01
import Derived.Test.YtoldmigappbjcaaGreatDoorK02
import Derived.Test.YtoldmigappbjcaaGreatDoorK04
import Derived.Test.YtoldmigappbjcaaGreatDoorK05
import Derived.Test.YtoldmigappbjcaaGreatDoorK06
import Derived.Test.YtoldmigappbjcaaGreatDoorK17
import Derived.Test.YtoldmigappbjcaaGreatDoorK24
import Derived.Test.YtoldmigappbjcaaGreatDoorK25
import Derived.Test.YtoldmigappbjcaaGreatDoorK26
namespace Go.GrainU
open Go.RowKit
def lser (l:List Ln) (k:Nat):Lb:=(l.getD k ([],[])).1
def lsmp (l:List Ln) (k:Nat):List (Int×Int):=(l.getD k ([],[])).2
def lnAlone (x:Ln):Int:=if wrongS x.1=0 then (Grain.wrong x.2).1 else wrongS x.1
def lnBad (l:List Ln) (k:Nat):Int :=
 if lnAlone (lser l k,lsmp l k)=0 then (if 0<k∧0≤cmpS (lser l (k-1)) (lser l k) then 2 else 0) else lnAlone (lser l k,lsmp l k)
def wrLF (l:List Ln):Nat→Nat→Int×Int
 | 0,_=>(0,0)
 | n+1,k=>if lnBad l k=0 then wrLF l n (k+1) else (lnBad l k,(k:Int))
def wrLn (l:List Ln):Int×Int:=if 8<l.length then (5,0) else wrLF l l.length 0
theorem wrLF_ok {l:List Ln} {n k:Nat} (h:lnBad l k=0):wrLF l (n+1) k=wrLF l n (k+1):=by simp [wrLF,h]
theorem wrLF_no {l:List Ln} {n k:Nat} (h:lnBad l k≠0):wrLF l (n+1) k=(lnBad l k,(k:Int)):=by simp [wrLF,h]
mutual
/-- what an expression comes tq;nothing,where a value is too great -/
def ev (l:List Ln) (time:Int):Ex→Option Mn
 | .mk h kids =>
  if h.kind=1 then some ⟨true,[([],h.n)]⟩
  else if h.kind=2 then some ⟨false,winC l h time⟩
  else
   match evL l time kids with
   | none=>none
   | some ms=>if h.kind=3 then (allA h.word h.bs [] (ms.getD 0 ⟨false,[]⟩).cs).map fun c=>⟨false,c⟩ else binM (ms.getD 0 ⟨false,[]⟩) (ms.getD 1 ⟨false,[]⟩) h.word
def evL (l:List Ln) (time:Int):List Ex→Option (List Mn)
 | []=>some []
 | k::r =>
  match ev l time k with
  | none=>none
  | some m =>
   match evL l time r with
   | none=>none
   | some ms=>some (m::ms)
end
def ask (l:List Ln) (e:Ex) (time:Int):List Cl×Int :=
 if (wrLn l).1=0 then
  (if chk e time=0 then (match ev l time e with | none=>([],3) | some m=>(m.cs,0)) else ([],chk e time))
 else ([],(wrLn l).1)
theorem cmpS_self (a:Lb):cmpS a a=0:=by rw [cmpS_L];exact cmpL_self a
open Go.RowKit
theorem wrLF_of {l:List Ln}:∀ n k,(∀ j,k≤j→j<k+n→lnBad l j=0)→wrLF l n k=(0,0)
 | 0,_,_=>rfl
 | n+1,k,h=>by rw [wrLF_ok (h k (by omega) (by omega)),wrLF_of n (k+1) (fun j h1 h2=>h j (by omega) (by omega))]
open Go.RowKit
structure LT where
 ser:Lb
 smp:List (Int×Int)
 sa:Option Addr
 sc:Nat
 pa:Option Addr
 pc:Nat
def LT.ln (x:LT):Ln:=(x.ser,x.smp)
def lt0:LT:=⟨[],[],none,0,none,0⟩
def lt (l:List LT) (k:Nat):LT:=l.getD k lt0
def tcells:List LT→List Value
 | []=>[]
 | x::r=>.slice x.sa x.ser.length x.sc::.slice x.pa x.smp.length x.pc::tcells r
theorem tcells_length (l:List LT):(tcells l).length=l.length*2:=by
 induction l with
 | nil=>rfl
 | cons s r ih=>simp only [tcells,List.length_cons,ih];omega
theorem tcells_at (l:List LT):∀ k,k<l.length→(tcells l)[k*2]?=some (.slice (lt l k).sa (lt l k).ser.length (lt l k).sc)∧(tcells l)[k*2+1]?=some (.slice (lt l k).pa (lt l k).smp.length (lt l k).pc):=by
 induction l with
 | nil=>intro k hk;simp at hk
 | cons s r ih =>
  intro k hk
  match k with
  | 0=>simp [tcells,lt]
  | k+1 =>
   have:=ih k (by simpa using hk)
   rw [show (k+1)*2=k*2+1+1 from by omega]
   simpa [tcells,lt] using this
theorem seg_line {w:World} {ao:Option Addr} {l:List LT} (h:Seg w ao (tcells l)) {k:Nat} (hk:k<l.length) :
  ∃ b off,ao=some ⟨b,off,none⟩∧b<w.heap.size∧∀ j,j<l.length→w.cell? ⟨b,off+j*2,none⟩=some (.slice (lt l j).sa (lt l j).ser.length (lt l j).sc)∧w.cell? ⟨b,off+j*2+1,none⟩=some (.slice (lt l j).pa (lt l j).smp.length (lt l j).pc):=by
 have hs:=tcells_length l
 rcases h with h | ⟨b,off,rfl,h⟩
 ·rw [h] at hs;simp at hs;omega
 ·have hc:∀ j,j<l.length→w.cell? ⟨b,off+j*2,none⟩=some (.slice (lt l j).sa (lt l j).ser.length (lt l j).sc)∧w.cell? ⟨b,off+j*2+1,none⟩=some (.slice (lt l j).pa (lt l j).smp.length (lt l j).pc):=fun j hj=>by
   have:=tcells_at l j hj
   exact ⟨(h (j*2) (by omega)).trans this.1,by rw [Nat.add_assoc];exact (h (j*2+1) (by omega)).trans this.2⟩
  exact ⟨b,off,rfl,World.block_lt_of_cell? w ⟨b,off+k*2,none⟩ (hc k hk).1,hc⟩
structure LnOk (w:World) (x:LT):Prop where
 ser:Seg w x.sa (lcells x.ser)
 smp:Seg w x.pa (scells x.smp)
 fit:Fits x.ser
 ls:x.ser.length≤9223372036854775806
 lp:x.smp.length≤9223372036854775806
 nil:x.sa=none→x.ser.length=0∧x.sc=0
 cap:x.smp.length≤x.pc∧x.pc≤9223372036854775807
 psome:x.pa=none→x.smp.length=0∧x.pc=0
def LnsIn (w:World) (l:List LT):Prop:=∀ x∈l,LnOk w x
theorem LnOk.below {w w':World} {x:LT} (h:LnOk w x) (hb:Below w.heap.size w w'):LnOk w' x:=⟨h.ser.below hb,h.smp.below hb,h.fit,h.ls,h.lp,h.nil,h.cap,h.psome⟩
theorem LnsIn.below {w w':World} {l:List LT} (h:LnsIn w l) (hb:Below w.heap.size w w'):LnsIn w' l:=fun x hx=>(h x hx).below hb
theorem lt_mem {l:List LT} {k:Nat} (hk:k<l.length):lt l k∈l:=by
 simp only [lt,List.getD,List.getElem?_eq_getElem hk,Option.getD_some];exact List.getElem_mem hk
def lns (l:List LT):List Ln:=l.map LT.ln
theorem lns_len (l:List LT):(lns l).length=l.length:=by simp [lns]
theorem lser_lt {l:List LT} {k:Nat} (hk:k<l.length):lser (lns l) k=(lt l k).ser:=by simp [lser,lns,lt,LT.ln,List.getD,hk]
theorem lsmp_lt {l:List LT} {k:Nat} (hk:k<l.length):lsmp (lns l) k=(lt l k).smp:=by simp [lsmp,lns,lt,LT.ln,List.getD,hk]
theorem take_lt {l:List LT} {k:Nat} (h:k<l.length):l.take (k+1)=l.take k++[lt l k]:=by
 rw [List.take_add_one,List.getElem?_eq_getElem h]
 simp only [lt,List.getD,List.getElem?_eq_getElem h,Option.getD_some,Option.toList_some]
open Go.RowKit
theorem Bel.toBelow {B:Nat} {w w':World} (h:Bel none B w w'):Below B w w':=⟨h.os,h.tape,h.output,h.size,fun k hk=>h.block k hk (by simp)⟩
theorem Solo.no (w:World):Solo none w:=fun C h=>by cases h
theorem evg_ev (l:List Ln) (time:Int):∀ x:Ex,evG (fun h=>.ok (winC l h time)) x=exc (ev l time x):=by
 refine Ex.ind ?_
 intro h kids ih
 have hL:∀ ks:List Ex,(∀ k∈ks,evG (fun h=>.ok (winC l h time)) k=exc (ev l time k))→evGL (fun h=>.ok (winC l h time)) ks=(match evL l time ks with | none=>.error 3 | some m=>.ok m):=by
  intro ks
  induction ks with
  | nil=>intro _;rfl
  | cons a r ihr =>
   intro hk
   rw [evGL,evL,hk a (by simp),ihr (fun k hk'=>hk k (by simp [hk']))]
   cases ev l time a with
   | none=>rfl
   | some m =>
    cases evL l time r with
    | none=>rfl
    | some ms=>rfl
 rw [evG,ev,hL kids ih]
 by_cases e1:h.kind=1
 ·rw [if_pos e1,if_pos e1];rfl
 rw [if_neg e1,if_neg e1]
 by_cases e2:h.kind=2
 ·rw [if_pos e2,if_pos e2];rfl
 rw [if_neg e2,if_neg e2]
 cases evL l time kids with
 | none=>rfl
 | some ms =>
  simp only
  by_cases e3:h.kind=3
  ·rw [if_pos e3,if_pos e3]
   cases allA h.word h.bs [] (ms.getD 0 ⟨false,[]⟩).cs <;> rfl
  ·rw [if_neg e3,if_neg e3]
   cases binM (ms.getD 0 ⟨false,[]⟩) (ms.getD 1 ⟨false,[]⟩) h.word <;> rfl
open Go.RowKit
end Go.GrainU
namespace Go.Proofs.YtoldmigappbjcaaGreatDoor
open Go.RowKit Go.GrainU
set_option maxRecDepth 100000 in
set_option maxHeartbeats 1000000 in
theorem malone_any (x:LT) (n m:Nat) (w:World) (hx:LnOk w x) (hn:n=x.ser.length) (hm:m=x.smp.length) :
  Calls Tryz.prog 65 #[.agg #[.slice x.sa n x.sc,.slice x.pa m x.pc]] w fun e w'=>e=.returned (.int .i64 (lnAlone x.ln))∧Below w.heap.size w w':=by
 obtain ⟨A,hA⟩:∃ A,A=wrongS x.ser:=⟨_,rfl⟩
 obtain ⟨B,hB⟩:∃ B,B=Grain.wrong x.smp:=⟨_,rfl⟩
 have HR:Hid (lnAlone x.ln=if A=0 then B.1 else A):=by show _=_;rw [hA,hB];rfl
 have HA:=hide hA
 have HB:=hide hB
 have HN:=hide hn
 have HM:=hide hm
 clear hA hB hn hm
 obtain ⟨R,hR⟩:∃ R,R=lnAlone x.ln:=⟨_,rfl⟩
 rw [← hR]
 have HR2:=hide hR
 clear hR
 obtain ⟨V,hV⟩:∃ V,V=w.alloc (.cells #[.slice x.sa n x.sc,.slice x.pa m x.pc] 63):=⟨_,rfl⟩
 have bel:Below w.heap.size w V:=by rw [hV];exact (Below.refl _ _).alloc (Nat.le_refl _) _
 have F0:V.heap[w.heap.size]?=some (.cells #[.slice x.sa n x.sc,.slice x.pa m x.pc] 63 (0,0)):=by rw [hV];exact heap_alloc_new w _
 have hxV:=hx.below bel
 have HV:=hide hV
 clear hV hx
 go_enter Tryz.func65,Tryz.ntmps65
 go_wp2_with fail
 rw [← HV.out]
 refine (nwrong_any x.ser x.sa n x.sc V hxV.ser HN.out hxV.fit).mono ?_
 rintro e w1 ⟨rfl,b1⟩
 rw [← HA.out]
 obtain ⟨p0,p1,_,_⟩:=two_cells (below_block b1 F0)
 by_cases h0:A=0
 ·have HR3:Hid (R=B.1):=by show _=_;rw [HR2.out,HR.out,if_pos h0]
  subst h0
  go_wp2_with fail
  refine (wrong_len x.smp x.pa m x.pc w1 (hxV.smp.below b1) HM.out).mono ?_
  rintro e w2 ⟨rfl,b2⟩
  rw [← HB.out]
  obtain ⟨B1,B2⟩:=B
  have hfl:∀ w,Sem.run Tryz.prog (Instr.field 43 (.agg #[.int .i64 B1,.int .i64 B2]) 0) w=.ok (.int .i64 B1) w:=by intro w;simp [Instr.field,go_sem,asAgg]
  go_wp2
  go_ret
  exact ⟨ret_int HR3.out.symm,bel.trans ((below_step b2 b1).mono bel.size)⟩
 ·have HR3:Hid (R=A):=by show _=_;rw [HR2.out,HR.out,if_neg h0]
  have hd:(A != 0)=true:=by simpa using h0
  clear h0
  go_wp2
  go_ret
  exact ⟨ret_int HR3.out.symm,bel.trans (b1.mono bel.size)⟩
set_option maxRecDepth 100000 in
set_option maxHeartbeats 4000000 in
theorem mwrong_any (l:List LT) (ao:Option Addr) (n cap:Nat) (w:World) (hs:Seg w ao (tcells l)) (hin:LnsIn w l) (hn:n=l.length) :
  Calls Tryz.prog 39 #[.slice ao n cap] w fun e w'=>e=.returned (.agg #[.int .i64 (wrLn (lns l)).1,.int .i64 (wrLn (lns l)).2])∧Below w.heap.size w w':=by
 by_cases h5:8<n
 ·have hw:wrLn (lns l)=(5,0):=by simp [wrLn,lns_len,← hn,h5]
  rw [hw];clear hw hn
  have hd:decide ((8:Int)<(n:Int))=true:=by simp;omega
  go_enter Tryz.func39,Tryz.ntmps39
  go_wp2
  exact bodyPost_ret (v:=.agg #[.int .i64 5,.int .i64 0]) (by simp [results,Tryz.results39,go_sem]) rfl ⟨rfl,by go_grown⟩
 ·have hw:wrLn (lns l)=wrLF (lns l) n 0:=by simp [wrLn,lns_len,← hn,h5]
  rw [hw];clear hw
  have HN:=hide hn
  have HI:=hide hin
  clear hn hin
  have hd:decide ((8:Int)<(n:Int))=false:=by simp;omega
  go_enter Tryz.func39,Tryz.ntmps39
  go_wp2
  go_loopw [12] (fun i wr=>∃ k:Nat,k≤n∧i=.int .i64 k∧Hid (wrLF (lns l) n 0=wrLF (lns l) (n-k) k)∧wr.heap[w.heap.size]?=some (.cells #[.int .i64 0,.int .i64 0] 43 (0,0))∧Below w.heap.size w wr) (fun i _=>n-(intOf i).toNat)
  case atStart=>exact ⟨0,Nat.zero_le _,rfl,rfl,heap_alloc_new w _,by go_grown⟩
  case round =>
   obtain ⟨k,hk,rfl,HW,hres,bel⟩:=hrel
   have hB:w.heap.size<wr.heap.size:=lt_of_block hres
   by_cases hlt:k<n
   ·have hkl:k<l.length:=by rw [← HN.out];exact hlt
    obtain ⟨b,off,rfl,hb,hcell⟩:=seg_line hs hkl
    obtain ⟨x,hx⟩:∃ x,x=lt l k:=⟨_,rfl⟩
    obtain ⟨sn,hsn⟩:∃ sn,sn=x.ser.length:=⟨_,rfl⟩
    obtain ⟨pn,hpn⟩:∃ pn,pn=x.smp.length:=⟨_,rfl⟩
    have okx:LnOk w x:=by rw [hx];exact HI.out _ (lt_mem hkl)
    have c0:wr.cell? ⟨b,off+k*2,none⟩=some (.slice x.sa sn x.sc):=by rw [hsn,hx];exact (bel.cell (by exact hb)).trans (hcell k hkl).1
    have c1:wr.cell? ⟨b,off+k*2+1,none⟩=some (.slice x.pa pn x.pc):=by rw [hpn,hx];exact (bel.cell (by exact hb)).trans (hcell k hkl).2
    obtain ⟨A,hA⟩:∃ A,A=lnAlone x.ln:=⟨_,rfl⟩
    have HBD:Hid (lnBad (lns l) k=if A=0 then (if 0<k∧0≤cmpS (lt l (k-1)).ser x.ser then 2 else 0) else A):=by
     show _=_
     unfold lnBad
     rw [lser_lt hkl,lsmp_lt hkl,lser_lt (show k-1<l.length by omega),hA,hx]
     rfl
    obtain ⟨V,hV⟩:∃ V,V=wr.alloc (.cells #[.slice x.sa sn x.sc,.slice x.pa pn x.pc] 63):=⟨_,rfl⟩
    obtain ⟨X,hX⟩:∃ X,X=wr.heap.size:=⟨_,rfl⟩
    have F1:V.heap[X]?=some (.cells #[.slice x.sa sn x.sc,.slice x.pa pn x.pc] 63 (0,0)):=by rw [hV,hX];exact heap_alloc_new wr _
    have bel1:Below w.heap.size w V:=by rw [hV];exact bel.alloc (by omega) _
    have res1:V.heap[w.heap.size]?=some (.cells #[.int .i64 0,.int .i64 0] 43 (0,0)):=by rw [hV,Below.heap_alloc _ _ _ hB];exact hres
    have HV:=hide hV
    have HX:=hide hX
    have HSN:=hide hsn
    have HPN:=hide hpn
    have HA:=hide hA
    have HC:=hide hcell
    have Hx:=hide hx
    have hsz:=bel1.size
    clear hV hsn hpn hA hcell hx bel hres
    go_wp2_with fail
    rw [← HV.out]
    refine (malone_any x sn pn V (okx.below bel1) HSN.out HPN.out).mono ?_
    rintro e w1 ⟨rfl,b1⟩
    rw [← HA.out]
    have bel2:Below w.heap.size w w1:=bel1.trans (b1.mono hsz)
    have F2:=below_block b1 F1
    have res2:=below_block b1 res1
    obtain ⟨r0,r1,r2,r3⟩:=two_cells res2
    obtain ⟨p0,p1,_,_⟩:=two_cells F2
    clear b1 bel1 F1 res1 c0 c1 HV
    rw [← HX.out]
    clear HX hX
    by_cases h0:A=0
    rotate_left
    ·have hw:Hid (wrLF (lns l) n 0=(A,(k:Int))):=by
      have hbad:lnBad (lns l) k=A:=by rw [HBD.out,if_neg h0]
      show _=_
      rw [HW.out,show n-k=(n-k-1)+1 from by omega,wrLF_no (by rw [hbad];exact h0),hbad]
     have hd:(A != 0)=true:=by simpa using h0
     clear HW HBD h0
     go_wp2
     exact bodyPost_ret (v:=.agg #[.int .i64 A,.int .i64 k]) (by simp [results,Tryz.results39,go_sem,r0,r1]) rfl ⟨by rw [hw.out],(bel2.setCell (Nat.le_refl _) _).setCell (Nat.le_refl _) _⟩
    ·have HBD2:Hid (lnBad (lns l) k=if 0<k∧0≤cmpS (lt l (k-1)).ser x.ser then 2 else 0):=by show _=_;rw [HBD.out,if_pos h0]
     subst h0
     clear HBD
     rcases Nat.eq_zero_or_pos k with hk0 | hk0
     ·subst hk0
      have hg:decide ((0:Int)<((0:Nat):Int))=false:=by decide
      have hg':decide ((0:Int)<0)=false:=by decide
      have hw:Hid (wrLF (lns l) n 0=wrLF (lns l) (n-(0+1)) (0+1)):=by
       show _=_
       rw [HW.out,show n-0=(n-(0+1))+1 from by omega,wrLF_ok (by rw [HBD2.out];simp)]
      clear HW HBD2
      go_wp2
      go_quiet (fail)
      go_wp2
      go_roundw
      case rel=>exact ⟨0+1,by omega,by go_num,hw,res2,below_drewN bel2 _⟩
      case measure=>simp [intOf];omega
     ·obtain ⟨m,rfl⟩:∃ m,k=m+1:=⟨k-1,by omega⟩
      have hg:decide ((0:Int)<((m+1:Nat):Int))=true:=by simp
      have hg':decide ((0:Int)<(m:Int)+1)=true:=by simp
      have hml:m<l.length:=by omega
      obtain ⟨y,hy⟩:∃ y,y=lt l m:=⟨_,rfl⟩
      obtain ⟨yn,hyn⟩:∃ yn,yn=y.ser.length:=⟨_,rfl⟩
      have oky:LnOk w y:=by rw [hy];exact HI.out _ (lt_mem hml)
      have q0:w1.cell? ⟨b,off+m*2,none⟩=some (.slice y.sa yn y.sc):=by rw [hyn,hy];exact (bel2.cell (by exact hb)).trans (HC.out m hml).1
      obtain ⟨C,hC⟩:∃ C,C=cmpS y.ser x.ser:=⟨_,rfl⟩
      have HBD3:Hid (lnBad (lns l) (m+1)=if 0≤C then 2 else 0):=by
       show _=_
       rw [HBD2.out,hC,hy,show m+1-1=m from rfl]
       simp
      have HYN:=hide hyn
      have HCC:=hide hC
      have bw1:b<w1.heap.size:=World.block_lt_of_cell? w1 _ q0
      have Xw1:X<w1.heap.size:=lt_of_block F2
      have HS:Hid (∀ w',Below w1.heap.size w1 w'→w'.cell? ⟨b,off+m*2,none⟩=some (.slice y.sa yn y.sc)∧w'.cell? ⟨X,0,none⟩=some (.slice x.sa sn x.sc)):=fun w' hb'=>⟨(hb'.cell (by exact bw1)).trans q0,(hb'.cell (by exact Xw1)).trans p0⟩
      have R0:Below w1.heap.size w1 w1.drew:=below_drewN (Below.refl _ _) 1
      have i1:(0:Int)≤(m:Int):=by omega
      have i2:(m:Int)<(n:Int):=by omega
      have i10:IntKind.i64.wrap (m:Int)=(m:Int):=by rw [IntKind.wrap_i64];omega
      have i3:IntKind.i64.wrap ((m:Int)+1-1)=(m:Int):=by rw [IntKind.wrap_i64];omega
      have i4:IntKind.i64.wrap (((m+1:Nat):Int)-1)=(m:Int):=by rw [IntKind.wrap_i64];omega
      have HL:Hid (yn≤9223372036854775807):=by show _≤_;rw [HYN.out];have:=oky.ls;omega
      clear hy hyn hC HBD2 hml
      go_wp2_with fail
      have hnn:decide (m<n)=true:=by simp;omega
      have i7:m<n:=by omega
      have i8:¬ (n≤m):=by omega
      have i9:¬ (m=n):=by omega
      go_region_held3 (fun w'=>w'.cell? ⟨b,off+m*2,none⟩=some (.slice y.sa yn y.sc)∧w'.cell? ⟨X,0,none⟩=some (.slice x.sa sn x.sc)) (exact HS.out _ (by assumption))
       (first | (go_at_call 20;refine (ncmp_any y.ser x.ser y.sa x.sa yn sn y.sc x.sc _ (oky.ser.below (bel2.trans (Below.mono (by assumption) bel2.size))) (okx.ser.below (bel2.trans (Below.mono (by assumption) bel2.size))) HYN.out HSN.out HL.out).mono ?_;rintro e w3 ⟨rfl,b3⟩;rw [← HCC.out];have R4:=below_step b3 (by assumption)))
      all_goals
       have bel3:Below w.heap.size w w3:=bel2.trans (R4.mono bel2.size)
       have res3:=below_block R4 res2
       clear R4 b3 R0 HS q0 bel2 res2 F2 p0 p1 r0 r1 r2 r3 i1 i2 i3 i4 i7 i8 i9 i10
       obtain ⟨r0,r1,r2,r3⟩:=two_cells res3
       by_cases hC:0≤C
       ·have hw:Hid (wrLF (lns l) n 0=(2,((m:Int)+1))):=by
         have hbad:lnBad (lns l) (m+1)=2:=by rw [HBD3.out,if_pos hC]
         show _=_
         rw [HW.out,show n-(m+1)=(n-(m+1)-1)+1 from by omega,wrLF_no (by rw [hbad];decide),hbad]
         simp
        clear HW HBD3
        go_wp2
        exact bodyPost_ret (v:=.agg #[.int .i64 2,.int .i64 ((m:Int)+1)]) (by simp [results,Tryz.results39,go_sem,r0,r1]) rfl ⟨by rw [hw.out],(bel3.setCell (Nat.le_refl _) _).setCell (Nat.le_refl _) _⟩
       ·have hw:Hid (wrLF (lns l) n 0=wrLF (lns l) (n-(m+1+1)) (m+1+1)):=by
         show _=_
         rw [HW.out,show n-(m+1)=(n-(m+1+1))+1 from by omega,wrLF_ok (by rw [HBD3.out,if_neg hC])]
        clear HW HBD3
        go_wp2
        go_roundw
        case rel=>exact ⟨m+1+1,by omega,by go_num,hw,res3,bel3⟩
        case measure=>simp [intOf];omega
   ·obtain ⟨r0,r1,r2,r3⟩:=two_cells hres
    have he:k=n:=by omega
    subst he
    have hw:Hid (wrLF (lns l) k 0=(0,0)):=by
     show _=_
     rw [HW.out];simp [wrLF]
    clear HW
    go_wp2
    exact bodyPost_ret (v:=.agg #[.int .i64 0,.int .i64 0]) (by simp [results,Tryz.results39,go_sem,r0,r1]) rfl ⟨by rw [hw.out],(bel.setCell (Nat.le_refl _) _).setCell (Nat.le_refl _) _⟩
end Go.Proofs.YtoldmigappbjcaaGreatDoor
