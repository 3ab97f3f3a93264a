import Derived.Deep.RegionHeld3
import Derived.Test.YtoldmigappbjcaaGreatDoorK04
import Derived.Test.YtoldmigappbjcaaGreatDoorK15
import Derived.Test.YtoldmigappbjcaaGreatDoorK16
namespace Go.GrainU
open Go.RowKit
structure ShT where
 s:Grain.Shf
 a0:Option Addr
 c0:Nat
 a1:Option Addr
 c1:Nat
 a2:Option Addr
 c2:Nat
 a3:Option Addr
 c3:Nat
def ShT.cells (x:ShT):List Value :=
 [.slice x.a0 x.s.se.length x.c0,.slice x.a1 x.s.ra.length x.c1,.slice x.a2 x.s.fi.length x.c2,.slice x.a3 x.s.co.length x.c3,.int .i64 x.s.rf,.int .i64 x.s.ff,.int .i64 x.s.ft,.int .i64 x.s.cf,.int .i64 x.s.ct]
def ShT.v (x:ShT):Value :=
 .agg #[.slice x.a0 x.s.se.length x.c0,.slice x.a1 x.s.ra.length x.c1,.slice x.a2 x.s.fi.length x.c2,.slice x.a3 x.s.co.length x.c3,.int .i64 x.s.rf,.int .i64 x.s.ff,.int .i64 x.s.ft,.int .i64 x.s.cf,.int .i64 x.s.ct]
structure ShIn (w:World) (x:ShT):Prop where
 g0:Seg w x.a0 (lcells x.s.se)
 g1:Seg w x.a1 (scells x.s.ra)
 g2:Seg w x.a2 (kcells x.s.fi)
 g3:Seg w x.a3 (kcells x.s.co)
 fits:Fits x.s.se
 n0:x.s.se.length*32≤140737488355328
 n1:x.s.ra.length*16≤140737488355328
 n2:x.s.fi.length*64≤140737488355328
 n3:x.s.co.length*64≤140737488355328
 z0:x.a0=none→x.s.se.length=0∧x.c0=0
 z1:x.a1=none→x.s.ra.length=0∧x.c1=0
 z2:x.a2=none→x.s.fi.length=0∧x.c2=0
 z3:x.a3=none→x.s.co.length=0∧x.c3=0
theorem ShIn.below {w w':World} {x:ShT} (h:ShIn w x) (hb:Below w.heap.size w w'):ShIn w' x :=
 ⟨h.g0.below hb,h.g1.below hb,h.g2.below hb,h.g3.below hb,h.fits,h.n0,h.n1,h.n2,h.n3,h.z0,h.z1,h.z2,h.z3⟩
end Go.GrainU
namespace Go.Proofs.YtoldmigappbjcaaGreatDoor
open Go.RowKit Go.GrainU
set_option maxRecDepth 20000 in
set_option maxHeartbeats 1000000 in
theorem kidx_any (l:List Grain.Bk) (p:Grain.Bk→Bool) (F:Nat) (caps:Array Value) (ao:Option Addr) (n c:Nat) (w:World) (ha:Seg w ao (kcells l)) (hn:n=l.length) (hc:n≤9223372036854775807)
  (hE:Hid (∀ (args:Array Value) (W:World),(callFunc F args).run Tryz.prog W=.ok (.enter F args) W))
  (hF:∀ W K,Below w.heap.size w W→Calls Tryz.prog F (#[kv K]++caps) W fun e W'=>e=.returned (.bool (p K))∧Below W.heap.size W W') :
  Calls Tryz.prog 162 #[.slice ao n c,.func (.func F) #[] caps] w fun e w'=>(∃ i,e=.returned (.int .i64 i)∧decide (0≤i)=l.any fun x=>p x)∧Below w.heap.size w w':=by
 have HN:=hide hn
 have HF:=hide hF
 clear hn hF
 go_enter Tryz.func162,Tryz.ntmps162
 go_wp2
 go_loopw [8] (fun i wr=>∃ k:Nat,k≤n∧i=.int .i64 k∧Hid ((l.any fun x=>p x)=(l.drop k).any fun x=>p x)∧Below w.heap.size w wr) (fun i _=>n-(intOf i).toNat)
 case atStart=>exact ⟨0,Nat.zero_le _,rfl,rfl,Below.refl _ _⟩
 case round =>
  obtain ⟨k,hk,rfl,HW,bel⟩:=hrel
  have hsz:=bel.size
  by_cases hlt:k<n
  ·have hkl:k<l.length:=by rw [← HN.out];exact hlt
   obtain ⟨b,off,rfl,hb,hcell⟩:=seg_bucket ha hkl
   obtain ⟨K,hK⟩:∃ K,K=Grain.bk l k:=⟨_,rfl⟩
   have q:=(hcell k hkl).below bel hb
   rw [← hK] at q
   obtain ⟨c0,c1,c2,c3,c4,c5,c6,c7⟩:=q
   have HS:Hid ((l.any fun x=>p x)=(p K || (l.drop (k+1)).any fun x=>p x)):=by
    show _=_
    rw [HW.out,List.drop_eq_getElem_cons hkl,List.any_cons,hK,Grain.bk_get hkl]
   clear hK hcell hkl HW
   go_wp2_with fail
   rw [hE.out,Oper.upon_enter]
   refine (HF.out wr K bel).mono ?_
   rintro e w1 ⟨rfl,hb1⟩
   have bel1:Below w.heap.size w w1:=bel.trans (hb1.mono hsz)
   clear hb1 bel c0 c1 c2 c3 c4 c5 c6 c7
   cases hp:p K
   ·have hw:Hid ((l.any fun x=>p x)=(l.drop (k+1)).any fun x=>p x):=by show _=_;rw [HS.out,hp];rfl
    clear HS hp
    go_wp2
    go_roundw
    case rel=>exact ⟨k+1,by omega,by go_num,hw,bel1⟩
    case measure=>simp [intOf];omega
   ·have hw:Hid ((l.any fun x=>p x)=true):=by show _=_;rw [HS.out,hp];rfl
    clear HS hp
    go_wp2
    go_ret
    exact ⟨⟨_,rfl,by rw [hw.out];simp⟩,bel1⟩
  ·have he:k=n:=by omega
   subst he
   have hw:Hid ((l.any fun x=>p x)=false):=by
    show _=_
    rw [HW.out,List.drop_eq_nil_of_le (by rw [← HN.out];omega)];rfl
   clear HW
   go_wp2
   go_ret
   exact ⟨⟨_,rfl,by rw [hw.out];rfl⟩,bel⟩
set_option maxHeartbeats 400000 in
theorem kcont_any (l:List Grain.Bk) (p:Grain.Bk→Bool) (F:Nat) (caps:Array Value) (ao:Option Addr) (n c:Nat) (w:World) (ha:Seg w ao (kcells l)) (hn:n=l.length) (hc:n≤9223372036854775807)
  (hE:Hid (∀ (args:Array Value) (W:World),(callFunc F args).run Tryz.prog W=.ok (.enter F args) W))
  (hF:∀ W K,Below w.heap.size w W→Calls Tryz.prog F (#[kv K]++caps) W fun e W'=>e=.returned (.bool (p K))∧Below W.heap.size W W') :
  Calls Tryz.prog 118 #[.slice ao n c,.func (.func F) #[] caps] w fun e w'=>e=.returned (.bool (l.any fun x=>p x))∧Below w.heap.size w w':=by
 have HF:=hide hF
 have HN:=hide hn
 clear hF hn
 go_enter Tryz.func118,Tryz.ntmps118
 go_wp2_with fail
 refine (kidx_any l p F caps ao n c w ha HN.out hc hE HF.out).mono ?_
 rintro e w1 ⟨⟨i,rfl,hi⟩,hb1⟩
 have HI:=hide hi
 clear hi
 go_wp2
 go_ret
 exact ⟨by rw [← HI.out];rfl,hb1⟩
set_option maxRecDepth 20000 in
set_option maxHeartbeats 2000000 in
theorem kkept_any (l:List Grain.Bk) (p:Grain.Bk→Bool) (F:Nat) (caps:Array Value) (ao:Option Addr) (n c:Nat) (w:World) (hs:Seg w ao (kcells l)) (hn:n=l.length) (hL:n≤1000000)
  (hE:Hid (∀ (args:Array Value) (W:World),(callFunc F args).run Tryz.prog W=.ok (.enter F args) W))
  (hF:∀ W K,Below w.heap.size w W→Calls Tryz.prog F (#[kv K]++caps) W fun e W'=>e=.returned (.bool (p K))∧Below W.heap.size W W') :
  Calls Tryz.prog 136 #[.slice ao n c,.func (.func F) #[] caps] w fun e w'=>∃ co N d,e=.returned (.slice co N d)∧w'.ownsRow w.heap.size 145 8 (.slice co N d) N (kcells (l.filter fun x=>p x))∧Below w.heap.size w w':=by
 obtain ⟨i0,hi,hz0,hz1,hz2⟩:=sinfo_parts Tryz.infoBucket
 have HN:=hide hn
 have HF:=hide hF
 clear hn hF
 go_enter Tryz.func136,Tryz.ntmps136
 go_wp2
 go_loopw [5,10] (fun out i wr=>∃ (k N d:Nat) (co:Option Addr),k≤n∧i=.int .i64 k∧out=.slice co N d∧N≤k∧wr.ownsRow w.heap.size 145 8 (.slice co N d) N (kcells ((l.take k).filter fun x=>p x))∧Below w.heap.size w wr) (fun _ i _=>n-(intOf i).toNat)
 case atStart=>exact ⟨0,0,0,none,Nat.zero_le _,rfl,rfl,Nat.le_refl _,World.ownsRow_nil _ _ _ _,Below.refl _ _⟩
 case round =>
  obtain ⟨k,N,d,co,hk,rfl,rfl,hNk,own,bel⟩:=hrel
  have hsz:=bel.size
  by_cases hlt:k<n
  ·have hkl:k<l.length:=by rw [← HN.out];exact hlt
   obtain ⟨b,off,rfl,hbl,hcell⟩:=seg_bucket hs hkl
   obtain ⟨K,hK⟩:∃ K,K=Grain.bk l k:=⟨_,rfl⟩
   have q:=(hcell k hkl).below bel hbl
   rw [← hK] at q
   obtain ⟨c0,c1,c2,c3,c4,c5,c6,c7⟩:=q
   have HU:Hid (((l.take (k+1)).filter fun x=>p x)=if p K=true then ((l.take k).filter fun x=>p x)++[K] else (l.take k).filter fun x=>p x):=by
    show _=_
    rw [filter_take _ hkl,hK,Grain.bk_get hkl]
   clear hK hcell hkl
   obtain ⟨V,hV⟩:∃ V,V=wr.alloc (ko K):=⟨_,rfl⟩
   obtain ⟨X,hX⟩:∃ X,X=wr.heap.size:=⟨_,rfl⟩
   have F1:V.heap[X]?=some (ko K):=by rw [hV,hX];exact heap_alloc_new wr _
   have own1:V.ownsRow w.heap.size 145 8 (.slice co N d) N (kcells ((l.take k).filter fun x=>p x)):=by rw [hV];exact own.alloc _
   have bel1:Below w.heap.size w V:=by rw [hV];exact bel.alloc hsz _
   have hs1:=bel1.size
   have HV:Hid (V=wr.alloc (.cells #[.int .i64 K.a,.int .i64 K.s.c,.int .i64 K.s.t,.int .i64 K.s.mn,.int .i64 K.s.mx,.int .i64 K.s.f,.int .i64 K.s.l,.int .i64 K.s.r] 145)):=hV
   have HX:=hide hX
   clear hV own
   go_wp2_with fail
   rw [hE.out,Oper.upon_enter,← HV.out,← HX.out]
   refine (HF.out V K bel1).mono ?_
   rintro e w1 ⟨rfl,hb1⟩
   have F2:w1.heap[X]?=some (ko K):=below_block hb1 F1
   have own2:=own_below own1 hb1
   have bel2:Below w.heap.size w w1:=bel1.trans (hb1.mono hs1)
   have hs2:=bel2.size
   obtain ⟨p0,p1,p2,p3,p4,p5,p6,p7⟩:=eight_cells F2
   clear hb1 own1 bel1 bel HV HX F1 hX c0 c1 c2 c3 c4 c5 c6 c7 hsz hs1
   cases hh:p K with
   | true =>
    have HE:Hid (((l.take (k+1)).filter fun x=>p x)=((l.take k).filter fun x=>p x)++[K]):=by
     show _=_
     rw [HU.out,if_pos hh]
    clear HU hh
    go_wp2_with (at_builtin;refine wpList_append_lies _ rfl _ _ 57 rfl w.heap.size 145 i0 (.agg #[.int .i64 0,.int .i64 0,.int .i64 0,.int .i64 0,.int .i64 0,.int .i64 0,.int .i64 0,.int .i64 0]) 8 64 Tryz.underlying57 hi hz0 hz1 hz2 rfl (by decide) _ _ _ rfl (own2.alloc _) ⟨w1.heap.size,0,none⟩ 1 1 (kc K) rfl rfl (World.news_of_block (cs:=#[.int .i64 K.a,.int .i64 K.s.c,.int .i64 K.s.t,.int .i64 K.s.mn,.int .i64 K.s.mx,.int .i64 K.s.f,.int .i64 K.s.l,.int .i64 K.s.r]) (t:=145) (fr:=(0,0)) (by simpa using heap_alloc_new w1 _)) (by simp [kc,Value.oneCell']) (by decide) (by unfold maxLen;omega) (by omega) (by simp;omega) (w1.heap.size+1) (by simp) ?_)
    intro g' cp' w5 own5 gr5 hat5 hlt5
    have own6:w5.ownsRow w.heap.size 145 8 (.slice (some ⟨g',0,none⟩) (N+1) cp') (N+1) (kcells ((l.take (k+1)).filter fun x=>p x)):=by
     rw [HE.out,kcells_snoc];exact own5
    have bel5:Below w.heap.size w w5:=(bel2.alloc hs2 _).grown gr5 (by simp;omega) (fun j hj=>(own2.lt j hj).1)
    clear own5 gr5 hat5 hlt5 own2 HE
    go_wp2
    go_roundw
    case rel=>exact ⟨k+1,N+1,cp',_,by omega,by go_num,rfl,by omega,own6,bel5⟩
    case measure=>simp [intOf];omega
   | false =>
    have HE:Hid (((l.take (k+1)).filter fun x=>p x)=(l.take k).filter fun x=>p x):=by
     show _=_
     rw [HU.out,if_neg (by rw [hh];decide)]
    clear HU hh
    rw [← HE.out] at own2
    go_wp2
    go_roundw
    case rel=>exact ⟨k+1,N,d,co,by omega,by go_num,rfl,by omega,own2,bel2⟩
    case measure=>simp [intOf];omega
  ·have he:k=n:=by omega
   subst he
   have HT:=hide (List.take_of_length_le (i:=k) (l:=l) (by rw [← HN.out];omega))
   rw [HT.out] at own
   clear HT HN
   go_wp2
   go_ret
   exact ⟨co,N,d,rfl,own,bel⟩
set_option maxHeartbeats 1000000 in
theorem kcopy_any (l:List Grain.Bk) (ao:Option Addr) (n c:Nat) (w:World) (hs:Seg w ao (kcells l)) (hn:n=l.length) (hL:n*64≤140737488355328) (hnil:ao=none→n=0∧c=0) :
  Calls Tryz.prog 177 #[.slice ao n c] w fun e w'=>∃ co N d,e=.returned (.slice co N d)∧w'.ownsRow w.heap.size 145 8 (.slice co N d) N (kcells l)∧Below w.heap.size w w':=by
 obtain ⟨i0,hi,hz0,hz1,hz2⟩:=sinfo_parts Tryz.infoBucket
 have HN:=hide hn
 have HL:=hide hL
 have HZ:=hide hnil
 clear hn hL hnil
 go_enter Tryz.func177,Tryz.ntmps177
 go_wp2_with (at_builtin;refine append_seg rfl _ _ 57 rfl w.heap.size 145 i0 (.agg #[.int .i64 0,.int .i64 0,.int .i64 0,.int .i64 0,.int .i64 0,.int .i64 0,.int .i64 0,.int .i64 0]) 8 64 Tryz.underlying57 hi hz0 hz1 hz2 rfl (by decide) _ 0 [] rfl (World.ownsRow_nil _ _ _ _) ao n c (kcells l) rfl HZ.out hs ?qc1 (kcells_one l) ?qc4 ?qc5 (Nat.le_refl _) ?_)
 case qc1=>rw [kcells_length,HN.out]
 case qc4=>have:=HL.out;unfold maxLen;omega
 case qc5=>have:=HL.out;omega
 intro v' w1 own gr
 obtain ⟨ao',c',rfl,_,_⟩:=own_open own
 have bel1:Below w.heap.size w w1:=(Below.refl _ _).grown gr (Nat.le_refl _) (fun j hj=>by simp [Value.ownBlock] at hj)
 have own2:w1.ownsRow w.heap.size 145 8 (.slice ao' (0+n) c') (0+n) (kcells l):=by simpa using own
 clear own gr
 go_wp2
 go_ret
 exact ⟨ao',n,c',rfl,by simpa using own2,bel1⟩
open Go.RowKit Go.GrainU
theorem below_pl {W V w':World} (hb:Below V.heap.size V w') (h:Below W.heap.size W V):Below W.heap.size W w':=h.trans (hb.mono h.size)
theorem nine9 {w:World} {B:Nat} {x0 x1 x2 x3 x4 x5 x6 x7 x8:Value} {t:TypeId} (h:w.heap[B]?=some (.cells #[x0,x1,x2,x3,x4,x5,x6,x7,x8] t (0,0))) :
  w.cell? ⟨B,0,none⟩=some x0∧w.cell? ⟨B,1,none⟩=some x1∧w.cell? ⟨B,2,none⟩=some x2∧w.cell? ⟨B,3,none⟩=some x3∧w.cell? ⟨B,4,none⟩=some x4∧w.cell? ⟨B,5,none⟩=some x5∧w.cell? ⟨B,6,none⟩=some x6∧w.cell? ⟨B,7,none⟩=some x7∧w.cell? ⟨B,8,none⟩=some x8:=by
 refine ⟨?_,?_,?_,?_,?_,?_,?_,?_,?_⟩ <;> (rw [cell_of_row w B _ _ t (0,0) h];rfl)
theorem three3 {w:World} {B:Nat} {x0 x1 x2:Value} {t:TypeId} (h:w.heap[B]?=some (.cells #[x0,x1,x2] t (0,0))) :
  w.cell? ⟨B,0,none⟩=some x0∧w.cell? ⟨B,1,none⟩=some x1∧w.cell? ⟨B,2,none⟩=some x2:=by
 refine ⟨?_,?_,?_⟩ <;> (rw [cell_of_row w B _ _ t (0,0) h];rfl)
set_option maxHeartbeats 1000000 in
theorem whole_any (k f t st:Int) (b:Bool) (w:World) (hk:k=1∧st=10∨k=2∧st=60) (hb:b=decide (f%st=0∧t%st=0)) :
  Calls Tryz.prog 211 #[.agg #[.int .i64 k,.int .i64 f,.int .i64 t]] w fun e w'=>e=.returned (.bool b)∧Below w.heap.size w w':=by
 have H1:=hide (tmod_emod f st)
 have H2:=hide (tmod_emod t st)
 have HB:=hide hb
 clear hb
 have bel:Below w.heap.size w (w.alloc (.cells #[.int .i64 k,.int .i64 f,.int .i64 t] 235)):=(Below.refl _ _).alloc (Nat.le_refl _) _
 rcases hk with ⟨rfl,rfl⟩ | ⟨rfl,rfl⟩
 all_goals
  go_enter Tryz.func211,Tryz.ntmps211
  go_wp2_with fail
  refine (step_any _ _).mono ?_
  rintro e w1 ⟨rfl,rfl⟩
  simp only [stepOf]
  go_wp2
  all_goals
   go_ret
   refine ⟨ret_bool ?_,bel⟩
   have h1:=H1.out
   have h2:=H2.out
   rw [HB.out]
   clear H1 H2 HB
   rw [Bool.eq_iff_iff]
   simp
   omega
set_option maxHeartbeats 2000000 in
theorem may_any (s:Grain.Shf) (v0 v1 v2 v3:Value) (p:Grain.Pt) (b:Bool) (w:World) (hb:b=Grain.may s p) :
  Calls Tryz.prog 181 #[.agg #[v0,v1,v2,v3,.int .i64 s.rf,.int .i64 s.ff,.int .i64 s.ft,.int .i64 s.cf,.int .i64 s.ct],.agg #[.int .i64 p.k,.int .i64 p.f,.int .i64 p.t]] w fun e w'=>e=.returned (.bool b)∧Below w.heap.size w w':=by
 obtain ⟨se,ra,fi,co,rf,ff,ft,cf,ct⟩:=s
 obtain ⟨k,f,t⟩:=p
 have HB:=hide hb
 clear hb
 obtain ⟨V,hV⟩:∃ V,V=(w.alloc (.cells #[v0,v1,v2,v3,.int .i64 rf,.int .i64 ff,.int .i64 ft,.int .i64 cf,.int .i64 ct] 59)).alloc (.cells #[.int .i64 k,.int .i64 f,.int .i64 t] 235):=⟨_,rfl⟩
 have bel:Below w.heap.size w V:=by rw [hV];exact ((Below.refl _ _).alloc (Nat.le_refl _) _).alloc (by simp) _
 have S0:V.heap[w.heap.size]?=some (.cells #[v0,v1,v2,v3,.int .i64 rf,.int .i64 ff,.int .i64 ft,.int .i64 cf,.int .i64 ct] 59 (0,0)):=by
  rw [hV,Below.heap_alloc _ _ _ (by simp)];exact heap_alloc_new w _
 have P0:V.heap[w.heap.size+1]?=some (.cells #[.int .i64 k,.int .i64 f,.int .i64 t] 235 (0,0)):=by
  rw [hV];have:=heap_alloc_new (w.alloc (.cells #[v0,v1,v2,v3,.int .i64 rf,.int .i64 ff,.int .i64 ft,.int .i64 cf,.int .i64 ct] 59)) (.cells #[.int .i64 k,.int .i64 f,.int .i64 t] 235);rwa [World.size_alloc] at this
 have HV:=hide hV
 clear hV
 by_cases hft:t≤f
 ·have e:b=false:=by rw [HB.out];simp [Grain.may,hft]
  subst e
  clear HB
  go_enter Tryz.func181,Tryz.ntmps181
  go_wp2
  go_ret
  rw [← HV.out]
  exact ⟨rfl,bel⟩
 ·have hlt:f<t:=by omega
  clear hft
  by_cases k0:k=0
  ·subst k0
   go_enter Tryz.func181,Tryz.ntmps181
   go_wp2
   all_goals
    go_ret
    refine ⟨ret_bool ?_,by rw [← HV.out];exact bel⟩
    rw [HB.out]
    clear HB HV bel S0 P0
    rw [Bool.eq_iff_iff]
    simp [Grain.may]
    omega
  ·by_cases k1:k=1
   ·subst k1
    obtain ⟨b',hb'⟩:∃ b',b'=decide (f%10=0∧t%10=0):=⟨_,rfl⟩
    have HB':=hide hb'
    clear hb'
    go_enter Tryz.func181,Tryz.ntmps181
    go_wp2_with fail
    rw [← HV.out]
    refine (whole_any 1 f t 10 b' _ (.inl ⟨rfl,rfl⟩) HB'.out).mono ?_
    rintro e w1 ⟨rfl,hb1⟩
    have bel1:Below w.heap.size w w1:=bel.trans (hb1.mono bel.size)
    obtain ⟨c0,c1,c2,c3,c4,c5,c6,c7,c8⟩:=nine9 (below_block hb1 S0)
    obtain ⟨d0,d1,d2⟩:=three3 (below_block hb1 P0)
    clear HV bel S0 P0 hb1
    go_wp2
    all_goals
     go_ret
     refine ⟨ret_bool ?_,bel1⟩
     have hb2:=HB'.out
     rw [HB.out]
     clear HB HB' bel1 c0 c1 c2 c3 c4 c5 c6 c7 c8 d0 d1 d2
     rw [Bool.eq_iff_iff]
     simp_all [Grain.may]
     try omega
   ·by_cases k2:k=2
    ·subst k2
     obtain ⟨b',hb'⟩:∃ b',b'=decide (f%60=0∧t%60=0):=⟨_,rfl⟩
     have HB':=hide hb'
     clear hb'
     go_enter Tryz.func181,Tryz.ntmps181
     go_wp2_with fail
     rw [← HV.out]
     refine (whole_any 2 f t 60 b' _ (.inr ⟨rfl,rfl⟩) HB'.out).mono ?_
     rintro e w1 ⟨rfl,hb1⟩
     have bel1:Below w.heap.size w w1:=bel.trans (hb1.mono bel.size)
     obtain ⟨c0,c1,c2,c3,c4,c5,c6,c7,c8⟩:=nine9 (below_block hb1 S0)
     obtain ⟨d0,d1,d2⟩:=three3 (below_block hb1 P0)
     clear HV bel S0 P0 hb1
     go_wp2
     all_goals
      go_ret
      refine ⟨ret_bool ?_,bel1⟩
      have hb2:=HB'.out
      rw [HB.out]
      clear HB HB' bel1 c0 c1 c2 c3 c4 c5 c6 c7 c8 d0 d1 d2
      rw [Bool.eq_iff_iff]
      simp_all [Grain.may]
      try omega
    ·have e:b=false:=by rw [HB.out];simp [Grain.may,k0,k1,k2]
     subst e
     have e0:(k == 0)=false:=by simpa using k0
     have e1:(k == 1)=false:=by simpa using k1
     have e2:(k == 2)=false:=by simpa using k2
     clear HB k0 k1 k2
     go_enter Tryz.func181,Tryz.ntmps181
     go_wp2
     go_ret
     rw [← HV.out]
     exact ⟨rfl,bel⟩
end Go.Proofs.YtoldmigappbjcaaGreatDoor
namespace Go.GrainU
open Go.RowKit
def cutP (pa:Option Addr) (pc p s:Nat):Option Addr:=if pc=p then pa else pa.map (·.add (p*s))
theorem seg_cutP {w:World} {pa:Option Addr} {xs:List Value} {n pc p1 p2 s:Nat} (h:Seg w pa xs) (hl:xs.length=n*s) (hc:n≤pc) (h12:p1≤p2) (h2:p2≤n):Seg w (cutP pa pc p1 s) ((xs.take (p2*s)).drop (p1*s)):=by
 by_cases hp:p1=p2
 ·left
  subst hp
  rw [List.drop_eq_nil_of_le (by simp;omega)]
 ·rcases h with h | ⟨b,off,rfl,h⟩
  ·left;rw [h];simp
  ·have e:cutP (some ⟨b,off,none⟩) pc p1 s=some ⟨b,off+p1*s,none⟩:=by
    unfold cutP
    rw [if_neg (by omega)]
    simp only [Option.map_some]
    rw [show (⟨b,off,none⟩:Addr).add (p1*s)=⟨b,off+p1*s,none⟩ from by unfold Addr.add;split <;> simp_all]
   rw [e]
   refine .inr ⟨b,off+p1*s,rfl,fun j hj=>?_⟩
   simp at hj
   have:=Nat.mul_le_mul_right s h2
   rw [Nat.add_assoc,h _ (by omega),List.getElem?_drop,List.getElem?_take,if_pos (by omega)]
theorem scells_td (l:List (Int×Int)):∀ p1 p2,((scells l).take (p2*2)).drop (p1*2)=scells ((l.take p2).drop p1):=by
 have ht:∀ (l:List (Int×Int)) p,(scells l).take (p*2)=scells (l.take p):=by
  intro l
  induction l with
  | nil=>intro p;simp [scells]
  | cons x r ih =>
   intro p
   cases p with
   | zero=>simp [scells]
   | succ p=>rw [show (p+1)*2=p*2+1+1 by omega];simp [scells,ih]
 have hd:∀ (l:List (Int×Int)) p,(scells l).drop (p*2)=scells (l.drop p):=by
  intro l
  induction l with
  | nil=>intro p;simp [scells]
  | cons x r ih =>
   intro p
   cases p with
   | zero=>simp
   | succ p=>rw [show (p+1)*2=p*2+1+1 by omega];simp [scells,ih]
 intro p1 p2
 rw [ht,hd]
theorem kcells_td (l:List Grain.Bk):∀ p1 p2,((kcells l).take (p2*8)).drop (p1*8)=kcells ((l.take p2).drop p1):=by
 have ht:∀ (l:List Grain.Bk) p,(kcells l).take (p*8)=kcells (l.take p):=by
  intro l
  induction l with
  | nil=>intro p;simp [kcells]
  | cons x r ih =>
   intro p
   cases p with
   | zero=>simp [kcells]
   | succ p=>rw [show (p+1)*8=p*8+1+1+1+1+1+1+1+1 by omega];simp [kcells,kc,ih]
 have hd:∀ (l:List Grain.Bk) p,(kcells l).drop (p*8)=kcells (l.drop p):=by
  intro l
  induction l with
  | nil=>intro p;simp [kcells]
  | cons x r ih =>
   intro p
   cases p with
   | zero=>simp
   | succ p=>rw [show (p+1)*8=p*8+1+1+1+1+1+1+1+1 by omega];simp [kcells,kc,ih]
 intro p1 p2
 rw [ht,hd]
end Go.GrainU
namespace Grain
theorem cut_filter {α:Type} (tm:α→Int) {l:List α} {f t:Int} {a b:Nat} (ha:a≤l.length) (hb:b≤l.length)
  (h1:∀ i (hi:i<l.length),tm l[i]<f↔i<a) (h2:∀ i (hi:i<l.length),tm l[i]<t↔i<b) (hft:f≤t):a≤b∧(l.take b).drop a=l.filter fun x=>decide (f≤tm x∧tm x<t):=by
 have hab:a≤b:=by
  rcases Nat.lt_or_ge b a with hh | hh
  ·have a1:=(h1 b (by omega)).2 hh
   have a2:=(h2 b (by omega)).1 (by omega)
   omega
  ·exact hh
 refine ⟨hab,?_⟩
 have hl:l=(l.take b).take a++((l.take b).drop a++l.drop b):=by
  rw [← List.append_assoc,List.take_append_drop,List.take_append_drop]
 conv=>rhs;rw [hl]
 rw [List.filter_append,List.filter_append]
 have f1:((l.take b).take a).filter (fun x=>decide (f≤tm x∧tm x<t))=[]:=by
  rw [List.filter_eq_nil_iff]
  intro x hx
  obtain ⟨k,hk,rfl⟩:=List.mem_iff_getElem.1 hx
  simp at hk
  have:=(h1 k (by omega)).2 (by omega)
  simp
  omega
 have f2:((l.take b).drop a).filter (fun x=>decide (f≤tm x∧tm x<t))=(l.take b).drop a:=by
  rw [List.filter_eq_self]
  intro x hx
  obtain ⟨k,hk,rfl⟩:=List.mem_iff_getElem.1 hx
  simp at hk
  have a1:=(h2 (a+k) (by omega)).2 (by omega)
  have a2:¬ tm (l[a+k]'(by omega))<f:=fun hh=>by have:=(h1 (a+k) (by omega)).1 hh;omega
  simp
  omega
 have f3:(l.drop b).filter (fun x=>decide (f≤tm x∧tm x<t))=[]:=by
  rw [List.filter_eq_nil_iff]
  intro x hx
  obtain ⟨k,hk,rfl⟩:=List.mem_iff_getElem.1 hx
  simp at hk
  have:¬ tm (l[b+k]'(by omega))<t:=fun hh=>by have:=(h2 (b+k) (by omega)).1 hh;omega
  simp
  omega
 rw [f1,f2,f3];simp
end Grain
namespace Go.Proofs.YtoldmigappbjcaaGreatDoor
open Go.RowKit Go.GrainU
theorem prt_any (t v:Int) (w:World):Calls Tryz.prog 214 #[.agg #[.int .i64 t,.int .i64 v]] w fun e w'=>e=.returned (.int .i64 t)∧Below w.heap.size w w':=by
 have bel:Below w.heap.size w (w.alloc (.cells #[.int .i64 t,.int .i64 v] 34)):=(Below.refl _ _).alloc (Nat.le_refl _) _
 go_enter Tryz.func214,Tryz.ntmps214
 go_wp2
 go_ret
 exact ⟨rfl,bel⟩
set_option maxHeartbeats 2000000 in
theorem wf1_any (l:List (Int×Int)) (ao:Option Addr) (n c Bt Bl Bp i:Nat) (f:Int) (w:World) (hs:Seg w ao (scells l)) (hn:n=l.length) (hi:i<n)
  (ht:w.cell? ⟨Bt,0,none⟩=some (.func (.func 214) #[] #[])) (hl:w.cell? ⟨Bl,0,none⟩=some (.slice ao n c)) (hf:w.cell? ⟨Bp,1,none⟩=some (.int .i64 f)) :
  Calls Tryz.prog 239 #[.int .i64 i,.pointer (some ⟨Bt,0,none⟩),.pointer (some ⟨Bl,0,none⟩),.pointer (some ⟨Bp,0,none⟩)] w fun e w'=>e=.returned (.bool (decide (f≤Grain.tm l i)))∧Below w.heap.size w w':=by
 have hil:i<l.length:=by omega
 obtain ⟨b,off,rfl,hcell⟩:=hs.sample hil
 obtain ⟨T,hT⟩:∃ T,T=Grain.tm l i:=⟨_,rfl⟩
 obtain ⟨U,hU⟩:∃ U,U=Grain.vl l i:=⟨_,rfl⟩
 obtain ⟨c0,c1⟩:=hcell i hil
 rw [← hT] at c0 ⊢
 rw [← hU] at c1
 have R1:Below w.heap.size w w.drew:=below_drewN (Below.refl _ _) 1
 have HS:Hid (∀ w',Below w.heap.size w w'→w'.cell? ⟨Bt,0,none⟩=some (.func (.func 214) #[] #[])∧w'.cell? ⟨Bl,0,none⟩=some (.slice (some ⟨b,off,none⟩) n c)∧w'.cell? ⟨Bp,1,none⟩=some (.int .i64 f)∧w'.cell? ⟨b,off+i*2,none⟩=some (.int .i64 T)∧w'.cell? ⟨b,off+i*2+1,none⟩=some (.int .i64 U)) :=
  fun w' hb=>⟨(hb.cell (by exact World.block_lt_of_cell? _ _ ht)).trans ht,(hb.cell (by exact World.block_lt_of_cell? _ _ hl)).trans hl,(hb.cell (by exact World.block_lt_of_cell? _ _ hf)).trans hf,(hb.cell (by exact World.block_lt_of_cell? _ _ c0)).trans c0,(hb.cell (by exact World.block_lt_of_cell? _ _ c1)).trans c1⟩
 clear hcell hT hU hs hn hil c0 c1 ht hl hf
 go_enter Tryz.func239,Tryz.ntmps239
 go_wp2
 go_region_held3 (fun w'=>w'.cell? ⟨Bt,0,none⟩=some (.func (.func 214) #[] #[])∧w'.cell? ⟨Bl,0,none⟩=some (.slice (some ⟨b,off,none⟩) n c)∧w'.cell? ⟨Bp,1,none⟩=some (.int .i64 f)∧w'.cell? ⟨b,off+i*2,none⟩=some (.int .i64 T)∧w'.cell? ⟨b,off+i*2+1,none⟩=some (.int .i64 U)) (exact HS.out _ (by assumption))
  (first | (go_at_call 214;refine (prt_any T U _).mono ?_;rintro e w1 ⟨rfl,hb1⟩;have R2:=below_pl hb1 (by assumption)))
 all_goals
  go_wp2
  go_ret
  exact ⟨rfl,R2⟩
set_option maxHeartbeats 2000000 in
theorem wf2_any (l:List (Int×Int)) (ao:Option Addr) (n c Bt Bl Bp i:Nat) (f:Int) (w:World) (hs:Seg w ao (scells l)) (hn:n=l.length) (hi:i<n)
  (ht:w.cell? ⟨Bt,0,none⟩=some (.func (.func 214) #[] #[])) (hl:w.cell? ⟨Bl,0,none⟩=some (.slice ao n c)) (hf:w.cell? ⟨Bp,2,none⟩=some (.int .i64 f)) :
  Calls Tryz.prog 240 #[.int .i64 i,.pointer (some ⟨Bt,0,none⟩),.pointer (some ⟨Bl,0,none⟩),.pointer (some ⟨Bp,0,none⟩)] w fun e w'=>e=.returned (.bool (decide (f≤Grain.tm l i)))∧Below w.heap.size w w':=by
 have hil:i<l.length:=by omega
 obtain ⟨b,off,rfl,hcell⟩:=hs.sample hil
 obtain ⟨T,hT⟩:∃ T,T=Grain.tm l i:=⟨_,rfl⟩
 obtain ⟨U,hU⟩:∃ U,U=Grain.vl l i:=⟨_,rfl⟩
 obtain ⟨c0,c1⟩:=hcell i hil
 rw [← hT] at c0 ⊢
 rw [← hU] at c1
 have R1:Below w.heap.size w w.drew:=below_drewN (Below.refl _ _) 1
 have HS:Hid (∀ w',Below w.heap.size w w'→w'.cell? ⟨Bt,0,none⟩=some (.func (.func 214) #[] #[])∧w'.cell? ⟨Bl,0,none⟩=some (.slice (some ⟨b,off,none⟩) n c)∧w'.cell? ⟨Bp,2,none⟩=some (.int .i64 f)∧w'.cell? ⟨b,off+i*2,none⟩=some (.int .i64 T)∧w'.cell? ⟨b,off+i*2+1,none⟩=some (.int .i64 U)) :=
  fun w' hb=>⟨(hb.cell (by exact World.block_lt_of_cell? _ _ ht)).trans ht,(hb.cell (by exact World.block_lt_of_cell? _ _ hl)).trans hl,(hb.cell (by exact World.block_lt_of_cell? _ _ hf)).trans hf,(hb.cell (by exact World.block_lt_of_cell? _ _ c0)).trans c0,(hb.cell (by exact World.block_lt_of_cell? _ _ c1)).trans c1⟩
 clear hcell hT hU hs hn hil c0 c1 ht hl hf
 go_enter Tryz.func240,Tryz.ntmps240
 go_wp2
 go_region_held3 (fun w'=>w'.cell? ⟨Bt,0,none⟩=some (.func (.func 214) #[] #[])∧w'.cell? ⟨Bl,0,none⟩=some (.slice (some ⟨b,off,none⟩) n c)∧w'.cell? ⟨Bp,2,none⟩=some (.int .i64 f)∧w'.cell? ⟨b,off+i*2,none⟩=some (.int .i64 T)∧w'.cell? ⟨b,off+i*2+1,none⟩=some (.int .i64 U)) (exact HS.out _ (by assumption))
  (first | (go_at_call 214;refine (prt_any T U _).mono ?_;rintro e w1 ⟨rfl,hb1⟩;have R2:=below_pl hb1 (by assumption)))
 all_goals
  go_wp2
  go_ret
  exact ⟨rfl,R2⟩
theorem rise_mono {l:List (Int×Int)} (h:l.Pairwise (fun x y=>x.1<y.1)) (f:Int):∀ a b,a≤b→b<l.length→decide (f≤Grain.tm l a)=true→decide (f≤Grain.tm l b)=true:=by
 intro a b hab hb ha
 rcases Nat.lt_or_ge a b with hl | hl
 ·have:=List.pairwise_iff_getElem.1 h a b (by omega) hb hl
  simp [Grain.tm,List.getD,List.getElem?_eq_getElem hb,List.getElem?_eq_getElem (show a<l.length by omega)] at ha ⊢
  omega
 ·obtain rfl:a=b:=by omega
  exact ha
set_option maxHeartbeats 2000000 in
theorem within_any (l:List (Int×Int)) (ao:Option Addr) (n c:Nat) (p:Grain.Pt) (w:World) (hs:Seg w ao (scells l)) (hn:n=l.length) (hc:n≤c) (hL:n≤1000000) (hpw:l.Pairwise (fun x y=>x.1<y.1)) (hft:p.f≤p.t) :
  Calls Tryz.prog 213 #[.slice ao n c,.agg #[.int .i64 p.k,.int .i64 p.f,.int .i64 p.t],.func (.func 214) #[] #[]] w fun e w'=>∃ (bo:Option Addr) (m d:Nat),e=.returned (.slice bo m d)∧Seg w bo (scells (Grain.win l p.f p.t))∧Hid (m=(Grain.win l p.f p.t).length)∧Below w.heap.size w w':=by
 obtain ⟨k,f,t⟩:=p
 simp only at hft
 obtain ⟨X,hX⟩:∃ X,X=w.heap.size:=⟨_,rfl⟩
 obtain ⟨V,hV⟩:∃ V,V=((w.alloc (.cells #[.slice ao n c] 56)).alloc (.cells #[.int .i64 k,.int .i64 f,.int .i64 t] 235)).alloc (.cells #[.func (.func 214) #[] #[]] 267):=⟨_,rfl⟩
 have bel:Below w.heap.size w V:=by rw [hV];exact (((Below.refl _ _).alloc (Nat.le_refl _) _).alloc (by simp) _).alloc (by simp;omega) _
 have B0:V.heap[X]?=some (.cells #[.slice ao n c] 56 (0,0)):=by
  rw [hV,hX,Below.heap_alloc _ _ _ (by simp;omega),Below.heap_alloc _ _ _ (by simp)];exact heap_alloc_new w _
 have B1:V.heap[X+1]?=some (.cells #[.int .i64 k,.int .i64 f,.int .i64 t] 235 (0,0)):=by
  rw [hV,hX,Below.heap_alloc _ _ _ (by simp)];have:=heap_alloc_new (w.alloc (.cells #[.slice ao n c] 56)) (.cells #[.int .i64 k,.int .i64 f,.int .i64 t] 235);rwa [World.size_alloc] at this
 have B2:V.heap[X+2]?=some (.cells #[.func (.func 214) #[] #[]] 267 (0,0)):=by
  rw [hV,hX];have:=heap_alloc_new ((w.alloc (.cells #[.slice ao n c] 56)).alloc (.cells #[.int .i64 k,.int .i64 f,.int .i64 t] 235)) (.cells #[.func (.func 214) #[] #[]] 267);rwa [World.size_alloc,World.size_alloc] at this
 have cL:V.cell? ⟨X,0,none⟩=some (.slice ao n c):=by rw [cell_of_row V X _ _ _ (0,0) B0];rfl
 have cT:V.cell? ⟨X+2,0,none⟩=some (.func (.func 214) #[] #[]):=by rw [cell_of_row V (X+2) _ _ _ (0,0) B2];rfl
 obtain ⟨p0,p1,p2⟩:=three3 B1
 have lX:=lt_of_block B0
 have lX1:=lt_of_block B1
 have lX2:=lt_of_block B2
 have hsV:=hs.below bel
 have hE1:=hide (enters (P:=Tryz.prog) (f:=239) Tryz.func239 (by kernel_rfl) (by kernel_rfl))
 have hE2:=hide (enters (P:=Tryz.prog) (f:=240) Tryz.func240 (by kernel_rfl) (by kernel_rfl))
 have HA:Hid (∀ W,Below V.heap.size V W→Calls Tryz.prog 238 #[.int .i64 n,.func (.func 239) #[] #[.pointer (some ⟨X+2,0,none⟩),.pointer (some ⟨X,0,none⟩),.pointer (some ⟨X+1,0,none⟩)]] W fun e w'=>∃ r:Nat,r≤n∧Hid ((∀ t,t<r→decide (f≤Grain.tm l t)=false)∧∀ t,r≤t→t<n→decide (f≤Grain.tm l t)=true)∧e=.returned (.int .i64 r)∧Below W.heap.size W w'):=by
  intro W hb
  refine search_any (fun i=>decide (f≤Grain.tm l i)) _ _ n W hL hE1 (fun W' i hi hb'=>?_) (fun a b h1 h2=>rise_mono hpw f a b h1 (by omega))
  have hbb:=below_pl hb' hb
  exact wf1_any l ao n c (X+2) X (X+1) i f W' (hsV.below hbb) hn hi ((hbb.cell (by exact lX2)).trans cT) ((hbb.cell (by exact lX)).trans cL) ((hbb.cell (by exact lX1)).trans p1)
 have HB:Hid (∀ W,Below V.heap.size V W→Calls Tryz.prog 238 #[.int .i64 n,.func (.func 240) #[] #[.pointer (some ⟨X+2,0,none⟩),.pointer (some ⟨X,0,none⟩),.pointer (some ⟨X+1,0,none⟩)]] W fun e w'=>∃ r:Nat,r≤n∧Hid ((∀ i,i<r→decide (t≤Grain.tm l i)=false)∧∀ i,r≤i→i<n→decide (t≤Grain.tm l i)=true)∧e=.returned (.int .i64 r)∧Below W.heap.size W w'):=by
  intro W hb
  refine search_any (fun i=>decide (t≤Grain.tm l i)) _ _ n W hL hE2 (fun W' i hi hb'=>?_) (fun a b h1 h2=>rise_mono hpw t a b h1 (by omega))
  have hbb:=below_pl hb' hb
  exact wf2_any l ao n c (X+2) X (X+1) i t W' (hsV.below hbb) hn hi ((hbb.cell (by exact lX2)).trans cT) ((hbb.cell (by exact lX)).trans cL) ((hbb.cell (by exact lX1)).trans p2)
 have HN:=hide hn
 have HV:=hide hV
 have HX:=hide hX
 have HS:=hide hs
 have HPW:=hide hpw
 have HFT:=hide hft
 have hXV:X≤V.heap.size:=by omega
 clear hn hV hX hs hsV hE1 hE2 B0 B1 B2 hpw p0 p1 p2 lX1 lX2 hft
 go_enter Tryz.func213,Tryz.ntmps213
 go_wp2_with fail
 rw [← HV.out,← HX.out]
 refine (HA.out V (Below.refl _ _)).mono ?_
 rintro e w1 ⟨r1,hr1,I1,rfl,hb1⟩
 have cL1:=(hb1.cell (p:=⟨X,0,none⟩) (by exact lX)).trans cL
 clear HA
 go_wp2_with fail
 refine (HB.out w1 hb1).mono ?_
 rintro e w2 ⟨r2,hr2,I2,rfl,hb2⟩
 have bel2:Below V.heap.size V w2:=below_pl hb2 hb1
 have cL2:=(bel2.cell (p:=⟨X,0,none⟩) (by exact lX)).trans cL
 have C:=Grain.cut_filter (fun x:Int×Int=>x.1) (l:=l) (f:=f) (t:=t) (a:=r1) (b:=r2) (by rw [← HN.out];exact hr1) (by rw [← HN.out];exact hr2) (fun i hi=>?c1) (fun i hi=>?c2) HFT.out
 case c1 =>
  have e:Grain.tm l i=l[i].1:=by simp [Grain.tm,List.getD,List.getElem?_eq_getElem hi]
  rw [← e]
  constructor
  ·intro h
   rcases Nat.lt_or_ge i r1 with h' | h'
   ·exact h'
   ·have:=I1.out.2 i h' (by rw [HN.out];exact hi)
    simp at this;omega
  ·intro h
   have:=I1.out.1 i h
   simp at this;omega
 case c2 =>
  have e:Grain.tm l i=l[i].1:=by simp [Grain.tm,List.getD,List.getElem?_eq_getElem hi]
  rw [← e]
  constructor
  ·intro h
   rcases Nat.lt_or_ge i r2 with h' | h'
   ·exact h'
   ·have:=I2.out.2 i h' (by rw [HN.out];exact hi)
    simp at this;omega
  ·intro h
   have:=I2.out.1 i h
   simp at this;omega
 obtain ⟨h12,hcut⟩:=C
 obtain ⟨so,hso⟩:∃ so,so=cutP ao c r1 2:=⟨_,rfl⟩
 obtain ⟨sl,hsl⟩:∃ sl,sl=r2-r1:=⟨_,rfl⟩
 obtain ⟨sd,hsd⟩:∃ sd,sd=c-r1:=⟨_,rfl⟩
 have hseg:Seg w so (scells (Grain.win l f t)):=by
  rw [hso,show Grain.win l f t=(l.take r2).drop r1 from hcut.symm,← scells_td]
  exact seg_cutP (n:=n) HS.out (by rw [scells_length,HN.out]) hc h12 (by omega)
 have hlen:sl=(Grain.win l f t).length:=by
  rw [hsl,show Grain.win l f t=(l.take r2).drop r1 from hcut.symm,List.length_drop,List.length_take,← HN.out];omega
 have hsl1:∀ w,Sem.run Tryz.prog (Instr.slice 56 (.slice ao n c) (some (.int .i64 r1)) (some (.int .i64 r2)) none) w=.ok (.slice so sl sd) w:=by
  intro w
  rw [run_slice_lh (P:=Tryz.prog) (t:=56) (ht:=by kernel_rfl) (a:=ao) (len:=n) (cap:=c) (kl:=.i64) (kh:=.i64) (l:=(r1:Int)) (h:=(r2:Int)) (h0:=by omega) (h1:=by omega) (h2:=by omega)]
  rw [hso,hsl,hsd]
  simp [sliced,cutP,go_sem]
 have hsl2:∀ w,Sem.run Tryz.prog (Instr.sliceAt 56 (.slice ao n c) (some (.int .i64 r1)) (some (.int .i64 r2)) none) w=.ok (.slice so sl sd) w:=by
  intro w
  rw [run_sliceAt_slice (P:=Tryz.prog) (t:=56) (h:=by kernel_rfl)]
  exact hsl1 w
 have HG:=hide hseg
 have HLn:=hide hlen
 clear hso hsl hsd hcut hseg hlen I1 I2 HS HPW
 go_wp2
 go_ret
 exact ⟨so,sl,sd,rfl,HG.out,HLn,by first | exact bel.trans (bel2.mono bel.size) | (rw [← HX.out];exact bel.trans (bel2.mono hXV))⟩
open Go.RowKit Go.GrainU
theorem krt_any (T:Grain.Bk) (w:World):Calls Tryz.prog 236 #[.agg #[.int .i64 T.a,.int .i64 T.s.c,.int .i64 T.s.t,.int .i64 T.s.mn,.int .i64 T.s.mx,.int .i64 T.s.f,.int .i64 T.s.l,.int .i64 T.s.r]] w fun e w'=>e=.returned (.int .i64 T.a)∧Below w.heap.size w w':=by
 have bel:Below w.heap.size w (w.alloc (.cells #[.int .i64 T.a,.int .i64 T.s.c,.int .i64 T.s.t,.int .i64 T.s.mn,.int .i64 T.s.mx,.int .i64 T.s.f,.int .i64 T.s.l,.int .i64 T.s.r] 145)):=(Below.refl _ _).alloc (Nat.le_refl _) _
 go_enter Tryz.func236,Tryz.ntmps236
 go_wp2
 go_ret
 exact ⟨rfl,bel⟩
set_option maxHeartbeats 2000000 in
theorem kf1_any (l:List Grain.Bk) (ao:Option Addr) (n c Bt Bl Bp i:Nat) (f:Int) (w:World) (hs:Seg w ao (kcells l)) (hn:n=l.length) (hi:i<n)
  (ht:w.cell? ⟨Bt,0,none⟩=some (.func (.func 236) #[] #[])) (hl:w.cell? ⟨Bl,0,none⟩=some (.slice ao n c)) (hf:w.cell? ⟨Bp,1,none⟩=some (.int .i64 f)) :
  Calls Tryz.prog 247 #[.int .i64 i,.pointer (some ⟨Bt,0,none⟩),.pointer (some ⟨Bl,0,none⟩),.pointer (some ⟨Bp,0,none⟩)] w fun e w'=>e=.returned (.bool (decide (f≤(Grain.bk l i).a)))∧Below w.heap.size w w':=by
 have hil:i<l.length:=by omega
 obtain ⟨b,off,rfl,_,hcell⟩:=seg_bucket hs hil
 obtain ⟨T,hT⟩:∃ T,T=Grain.bk l i:=⟨_,rfl⟩
 have q:=hcell i hil
 rw [← hT] at q ⊢
 obtain ⟨c0,c1,c2,c3,c4,c5,c6,c7⟩:=q
 have R1:Below w.heap.size w w.drew:=below_drewN (Below.refl _ _) 1
 have HS:Hid (∀ w',Below w.heap.size w w'→w'.cell? ⟨Bt,0,none⟩=some (.func (.func 236) #[] #[])∧w'.cell? ⟨Bl,0,none⟩=some (.slice (some ⟨b,off,none⟩) n c)∧w'.cell? ⟨Bp,1,none⟩=some (.int .i64 f)∧w'.cell? ⟨b,off+i*8,none⟩=some (.int .i64 T.a)∧w'.cell? ⟨b,off+i*8+1,none⟩=some (.int .i64 T.s.c)∧w'.cell? ⟨b,off+i*8+2,none⟩=some (.int .i64 T.s.t)∧w'.cell? ⟨b,off+i*8+3,none⟩=some (.int .i64 T.s.mn)∧w'.cell? ⟨b,off+i*8+4,none⟩=some (.int .i64 T.s.mx)∧w'.cell? ⟨b,off+i*8+5,none⟩=some (.int .i64 T.s.f)∧w'.cell? ⟨b,off+i*8+6,none⟩=some (.int .i64 T.s.l)∧w'.cell? ⟨b,off+i*8+7,none⟩=some (.int .i64 T.s.r)) :=
  fun w' hb=>⟨(hb.cell (by exact World.block_lt_of_cell? _ _ ht)).trans ht,(hb.cell (by exact World.block_lt_of_cell? _ _ hl)).trans hl,(hb.cell (by exact World.block_lt_of_cell? _ _ hf)).trans hf,(hb.cell (by exact World.block_lt_of_cell? _ _ c0)).trans c0,(hb.cell (by exact World.block_lt_of_cell? _ _ c1)).trans c1,(hb.cell (by exact World.block_lt_of_cell? _ _ c2)).trans c2,(hb.cell (by exact World.block_lt_of_cell? _ _ c3)).trans c3,(hb.cell (by exact World.block_lt_of_cell? _ _ c4)).trans c4,(hb.cell (by exact World.block_lt_of_cell? _ _ c5)).trans c5,(hb.cell (by exact World.block_lt_of_cell? _ _ c6)).trans c6,(hb.cell (by exact World.block_lt_of_cell? _ _ c7)).trans c7⟩
 clear hcell hT hs hn hil c0 c1 c2 c3 c4 c5 c6 c7 ht hl hf
 go_enter Tryz.func247,Tryz.ntmps247
 go_wp2
 go_region_held3 (fun w'=>w'.cell? ⟨Bt,0,none⟩=some (.func (.func 236) #[] #[])∧w'.cell? ⟨Bl,0,none⟩=some (.slice (some ⟨b,off,none⟩) n c)∧w'.cell? ⟨Bp,1,none⟩=some (.int .i64 f)∧w'.cell? ⟨b,off+i*8,none⟩=some (.int .i64 T.a)∧w'.cell? ⟨b,off+i*8+1,none⟩=some (.int .i64 T.s.c)∧w'.cell? ⟨b,off+i*8+2,none⟩=some (.int .i64 T.s.t)∧w'.cell? ⟨b,off+i*8+3,none⟩=some (.int .i64 T.s.mn)∧w'.cell? ⟨b,off+i*8+4,none⟩=some (.int .i64 T.s.mx)∧w'.cell? ⟨b,off+i*8+5,none⟩=some (.int .i64 T.s.f)∧w'.cell? ⟨b,off+i*8+6,none⟩=some (.int .i64 T.s.l)∧w'.cell? ⟨b,off+i*8+7,none⟩=some (.int .i64 T.s.r)) (exact HS.out _ (by assumption))
  (first | (go_at_call 236;refine (krt_any T _).mono ?_;rintro e w1 ⟨rfl,hb1⟩;have R2:=below_pl hb1 (by assumption)))
 all_goals
  go_wp2
  go_ret
  exact ⟨rfl,R2⟩
set_option maxHeartbeats 2000000 in
theorem kf2_any (l:List Grain.Bk) (ao:Option Addr) (n c Bt Bl Bp i:Nat) (f:Int) (w:World) (hs:Seg w ao (kcells l)) (hn:n=l.length) (hi:i<n)
  (ht:w.cell? ⟨Bt,0,none⟩=some (.func (.func 236) #[] #[])) (hl:w.cell? ⟨Bl,0,none⟩=some (.slice ao n c)) (hf:w.cell? ⟨Bp,2,none⟩=some (.int .i64 f)) :
  Calls Tryz.prog 248 #[.int .i64 i,.pointer (some ⟨Bt,0,none⟩),.pointer (some ⟨Bl,0,none⟩),.pointer (some ⟨Bp,0,none⟩)] w fun e w'=>e=.returned (.bool (decide (f≤(Grain.bk l i).a)))∧Below w.heap.size w w':=by
 have hil:i<l.length:=by omega
 obtain ⟨b,off,rfl,_,hcell⟩:=seg_bucket hs hil
 obtain ⟨T,hT⟩:∃ T,T=Grain.bk l i:=⟨_,rfl⟩
 have q:=hcell i hil
 rw [← hT] at q ⊢
 obtain ⟨c0,c1,c2,c3,c4,c5,c6,c7⟩:=q
 have R1:Below w.heap.size w w.drew:=below_drewN (Below.refl _ _) 1
 have HS:Hid (∀ w',Below w.heap.size w w'→w'.cell? ⟨Bt,0,none⟩=some (.func (.func 236) #[] #[])∧w'.cell? ⟨Bl,0,none⟩=some (.slice (some ⟨b,off,none⟩) n c)∧w'.cell? ⟨Bp,2,none⟩=some (.int .i64 f)∧w'.cell? ⟨b,off+i*8,none⟩=some (.int .i64 T.a)∧w'.cell? ⟨b,off+i*8+1,none⟩=some (.int .i64 T.s.c)∧w'.cell? ⟨b,off+i*8+2,none⟩=some (.int .i64 T.s.t)∧w'.cell? ⟨b,off+i*8+3,none⟩=some (.int .i64 T.s.mn)∧w'.cell? ⟨b,off+i*8+4,none⟩=some (.int .i64 T.s.mx)∧w'.cell? ⟨b,off+i*8+5,none⟩=some (.int .i64 T.s.f)∧w'.cell? ⟨b,off+i*8+6,none⟩=some (.int .i64 T.s.l)∧w'.cell? ⟨b,off+i*8+7,none⟩=some (.int .i64 T.s.r)) :=
  fun w' hb=>⟨(hb.cell (by exact World.block_lt_of_cell? _ _ ht)).trans ht,(hb.cell (by exact World.block_lt_of_cell? _ _ hl)).trans hl,(hb.cell (by exact World.block_lt_of_cell? _ _ hf)).trans hf,(hb.cell (by exact World.block_lt_of_cell? _ _ c0)).trans c0,(hb.cell (by exact World.block_lt_of_cell? _ _ c1)).trans c1,(hb.cell (by exact World.block_lt_of_cell? _ _ c2)).trans c2,(hb.cell (by exact World.block_lt_of_cell? _ _ c3)).trans c3,(hb.cell (by exact World.block_lt_of_cell? _ _ c4)).trans c4,(hb.cell (by exact World.block_lt_of_cell? _ _ c5)).trans c5,(hb.cell (by exact World.block_lt_of_cell? _ _ c6)).trans c6,(hb.cell (by exact World.block_lt_of_cell? _ _ c7)).trans c7⟩
 clear hcell hT hs hn hil c0 c1 c2 c3 c4 c5 c6 c7 ht hl hf
 go_enter Tryz.func248,Tryz.ntmps248
 go_wp2
 go_region_held3 (fun w'=>w'.cell? ⟨Bt,0,none⟩=some (.func (.func 236) #[] #[])∧w'.cell? ⟨Bl,0,none⟩=some (.slice (some ⟨b,off,none⟩) n c)∧w'.cell? ⟨Bp,2,none⟩=some (.int .i64 f)∧w'.cell? ⟨b,off+i*8,none⟩=some (.int .i64 T.a)∧w'.cell? ⟨b,off+i*8+1,none⟩=some (.int .i64 T.s.c)∧w'.cell? ⟨b,off+i*8+2,none⟩=some (.int .i64 T.s.t)∧w'.cell? ⟨b,off+i*8+3,none⟩=some (.int .i64 T.s.mn)∧w'.cell? ⟨b,off+i*8+4,none⟩=some (.int .i64 T.s.mx)∧w'.cell? ⟨b,off+i*8+5,none⟩=some (.int .i64 T.s.f)∧w'.cell? ⟨b,off+i*8+6,none⟩=some (.int .i64 T.s.l)∧w'.cell? ⟨b,off+i*8+7,none⟩=some (.int .i64 T.s.r)) (exact HS.out _ (by assumption))
  (first | (go_at_call 236;refine (krt_any T _).mono ?_;rintro e w1 ⟨rfl,hb1⟩;have R2:=below_pl hb1 (by assumption)))
 all_goals
  go_wp2
  go_ret
  exact ⟨rfl,R2⟩
theorem krise_mono {l:List Grain.Bk} (h:l.Pairwise (fun x y=>x.a<y.a)) (f:Int):∀ a b,a≤b→b<l.length→decide (f≤(Grain.bk l a).a)=true→decide (f≤(Grain.bk l b).a)=true:=by
 intro a b hab hb ha
 rcases Nat.lt_or_ge a b with hl | hl
 ·have:=List.pairwise_iff_getElem.1 h a b (by omega) hb hl
  simp [Grain.bk,List.getD,List.getElem?_eq_getElem hb,List.getElem?_eq_getElem (show a<l.length by omega)] at ha ⊢
  omega
 ·obtain rfl:a=b:=by omega
  exact ha
set_option maxHeartbeats 2000000 in
theorem kwithin_any (l:List Grain.Bk) (ao:Option Addr) (n c:Nat) (p:Grain.Pt) (w:World) (hs:Seg w ao (kcells l)) (hn:n=l.length) (hc:n≤c) (hL:n≤1000000) (hpw:l.Pairwise (fun x y=>x.a<y.a)) (hft:p.f≤p.t) :
  Calls Tryz.prog 235 #[.slice ao n c,.agg #[.int .i64 p.k,.int .i64 p.f,.int .i64 p.t],.func (.func 236) #[] #[]] w fun e w'=>∃ (bo:Option Addr) (m d:Nat),e=.returned (.slice bo m d)∧Seg w bo (kcells (Grain.winB l p.f p.t))∧Hid (m=(Grain.winB l p.f p.t).length)∧Below w.heap.size w w':=by
 obtain ⟨k,f,t⟩:=p
 simp only at hft
 obtain ⟨X,hX⟩:∃ X,X=w.heap.size:=⟨_,rfl⟩
 obtain ⟨V,hV⟩:∃ V,V=((w.alloc (.cells #[.slice ao n c] 57)).alloc (.cells #[.int .i64 k,.int .i64 f,.int .i64 t] 235)).alloc (.cells #[.func (.func 236) #[] #[]] 284):=⟨_,rfl⟩
 have bel:Below w.heap.size w V:=by rw [hV];exact (((Below.refl _ _).alloc (Nat.le_refl _) _).alloc (by simp) _).alloc (by simp;omega) _
 have B0:V.heap[X]?=some (.cells #[.slice ao n c] 57 (0,0)):=by
  rw [hV,hX,Below.heap_alloc _ _ _ (by simp;omega),Below.heap_alloc _ _ _ (by simp)];exact heap_alloc_new w _
 have B1:V.heap[X+1]?=some (.cells #[.int .i64 k,.int .i64 f,.int .i64 t] 235 (0,0)):=by
  rw [hV,hX,Below.heap_alloc _ _ _ (by simp)];have:=heap_alloc_new (w.alloc (.cells #[.slice ao n c] 57)) (.cells #[.int .i64 k,.int .i64 f,.int .i64 t] 235);rwa [World.size_alloc] at this
 have B2:V.heap[X+2]?=some (.cells #[.func (.func 236) #[] #[]] 284 (0,0)):=by
  rw [hV,hX];have:=heap_alloc_new ((w.alloc (.cells #[.slice ao n c] 57)).alloc (.cells #[.int .i64 k,.int .i64 f,.int .i64 t] 235)) (.cells #[.func (.func 236) #[] #[]] 284);rwa [World.size_alloc,World.size_alloc] at this
 have cL:V.cell? ⟨X,0,none⟩=some (.slice ao n c):=by rw [cell_of_row V X _ _ _ (0,0) B0];rfl
 have cT:V.cell? ⟨X+2,0,none⟩=some (.func (.func 236) #[] #[]):=by rw [cell_of_row V (X+2) _ _ _ (0,0) B2];rfl
 obtain ⟨p0,p1,p2⟩:=three3 B1
 have lX:=lt_of_block B0
 have lX1:=lt_of_block B1
 have lX2:=lt_of_block B2
 have hsV:=hs.below bel
 have hE1:=hide (enters (P:=Tryz.prog) (f:=247) Tryz.func247 (by kernel_rfl) (by kernel_rfl))
 have hE2:=hide (enters (P:=Tryz.prog) (f:=248) Tryz.func248 (by kernel_rfl) (by kernel_rfl))
 have HA:Hid (∀ W,Below V.heap.size V W→Calls Tryz.prog 238 #[.int .i64 n,.func (.func 247) #[] #[.pointer (some ⟨X+2,0,none⟩),.pointer (some ⟨X,0,none⟩),.pointer (some ⟨X+1,0,none⟩)]] W fun e w'=>∃ r:Nat,r≤n∧Hid ((∀ t,t<r→decide (f≤(Grain.bk l t).a)=false)∧∀ t,r≤t→t<n→decide (f≤(Grain.bk l t).a)=true)∧e=.returned (.int .i64 r)∧Below W.heap.size W w'):=by
  intro W hb
  refine search_any (fun i=>decide (f≤(Grain.bk l i).a)) _ _ n W hL hE1 (fun W' i hi hb'=>?_) (fun a b h1 h2=>krise_mono hpw f a b h1 (by omega))
  have hbb:=below_pl hb' hb
  exact kf1_any l ao n c (X+2) X (X+1) i f W' (hsV.below hbb) hn hi ((hbb.cell (by exact lX2)).trans cT) ((hbb.cell (by exact lX)).trans cL) ((hbb.cell (by exact lX1)).trans p1)
 have HB:Hid (∀ W,Below V.heap.size V W→Calls Tryz.prog 238 #[.int .i64 n,.func (.func 248) #[] #[.pointer (some ⟨X+2,0,none⟩),.pointer (some ⟨X,0,none⟩),.pointer (some ⟨X+1,0,none⟩)]] W fun e w'=>∃ r:Nat,r≤n∧Hid ((∀ i,i<r→decide (t≤(Grain.bk l i).a)=false)∧∀ i,r≤i→i<n→decide (t≤(Grain.bk l i).a)=true)∧e=.returned (.int .i64 r)∧Below W.heap.size W w'):=by
  intro W hb
  refine search_any (fun i=>decide (t≤(Grain.bk l i).a)) _ _ n W hL hE2 (fun W' i hi hb'=>?_) (fun a b h1 h2=>krise_mono hpw t a b h1 (by omega))
  have hbb:=below_pl hb' hb
  exact kf2_any l ao n c (X+2) X (X+1) i t W' (hsV.below hbb) hn hi ((hbb.cell (by exact lX2)).trans cT) ((hbb.cell (by exact lX)).trans cL) ((hbb.cell (by exact lX1)).trans p2)
 have HN:=hide hn
 have HV:=hide hV
 have HX:=hide hX
 have HS:=hide hs
 have HPW:=hide hpw
 have HFT:=hide hft
 have hXV:X≤V.heap.size:=by omega
 clear hn hV hX hs hsV hE1 hE2 B0 B1 B2 hpw p0 p1 p2 lX1 lX2 hft
 go_enter Tryz.func235,Tryz.ntmps235
 go_wp2_with fail
 rw [← HV.out,← HX.out]
 refine (HA.out V (Below.refl _ _)).mono ?_
 rintro e w1 ⟨r1,hr1,I1,rfl,hb1⟩
 have cL1:=(hb1.cell (p:=⟨X,0,none⟩) (by exact lX)).trans cL
 clear HA
 go_wp2_with fail
 refine (HB.out w1 hb1).mono ?_
 rintro e w2 ⟨r2,hr2,I2,rfl,hb2⟩
 have bel2:Below V.heap.size V w2:=below_pl hb2 hb1
 have cL2:=(bel2.cell (p:=⟨X,0,none⟩) (by exact lX)).trans cL
 have C:=Grain.cut_filter (fun x:Grain.Bk=>x.a) (l:=l) (f:=f) (t:=t) (a:=r1) (b:=r2) (by rw [← HN.out];exact hr1) (by rw [← HN.out];exact hr2) (fun i hi=>?c1) (fun i hi=>?c2) HFT.out
 case c1 =>
  have e:(Grain.bk l i).a=l[i].a:=by simp [Grain.bk,List.getD,List.getElem?_eq_getElem hi]
  rw [← e]
  constructor
  ·intro h
   rcases Nat.lt_or_ge i r1 with h' | h'
   ·exact h'
   ·have:=I1.out.2 i h' (by rw [HN.out];exact hi)
    simp at this;omega
  ·intro h
   have:=I1.out.1 i h
   simp at this;omega
 case c2 =>
  have e:(Grain.bk l i).a=l[i].a:=by simp [Grain.bk,List.getD,List.getElem?_eq_getElem hi]
  rw [← e]
  constructor
  ·intro h
   rcases Nat.lt_or_ge i r2 with h' | h'
   ·exact h'
   ·have:=I2.out.2 i h' (by rw [HN.out];exact hi)
    simp at this;omega
  ·intro h
   have:=I2.out.1 i h
   simp at this;omega
 obtain ⟨h12,hcut⟩:=C
 obtain ⟨so,hso⟩:∃ so,so=cutP ao c r1 8:=⟨_,rfl⟩
 obtain ⟨sl,hsl⟩:∃ sl,sl=r2-r1:=⟨_,rfl⟩
 obtain ⟨sd,hsd⟩:∃ sd,sd=c-r1:=⟨_,rfl⟩
 have hseg:Seg w so (kcells (Grain.winB l f t)):=by
  rw [hso,show Grain.winB l f t=(l.take r2).drop r1 from hcut.symm,← kcells_td]
  exact seg_cutP (n:=n) HS.out (by rw [kcells_length,HN.out]) hc h12 (by omega)
 have hlen:sl=(Grain.winB l f t).length:=by
  rw [hsl,show Grain.winB l f t=(l.take r2).drop r1 from hcut.symm,List.length_drop,List.length_take,← HN.out];omega
 have hsl1:∀ w,Sem.run Tryz.prog (Instr.slice 57 (.slice ao n c) (some (.int .i64 r1)) (some (.int .i64 r2)) none) w=.ok (.slice so sl sd) w:=by
  intro w
  rw [run_slice_lh (P:=Tryz.prog) (t:=57) (ht:=by kernel_rfl) (a:=ao) (len:=n) (cap:=c) (kl:=.i64) (kh:=.i64) (l:=(r1:Int)) (h:=(r2:Int)) (h0:=by omega) (h1:=by omega) (h2:=by omega)]
  rw [hso,hsl,hsd]
  simp [sliced,cutP,go_sem]
 have hsl2:∀ w,Sem.run Tryz.prog (Instr.sliceAt 57 (.slice ao n c) (some (.int .i64 r1)) (some (.int .i64 r2)) none) w=.ok (.slice so sl sd) w:=by
  intro w
  rw [run_sliceAt_slice (P:=Tryz.prog) (t:=57) (h:=by kernel_rfl)]
  exact hsl1 w
 have HG:=hide hseg
 have HLn:=hide hlen
 clear hso hsl hsd hcut hseg hlen I1 I2 HS HPW
 go_wp2
 go_ret
 exact ⟨so,sl,sd,rfl,HG.out,HLn,by first | exact bel.trans (bel2.mono bel.size) | (rw [← HX.out];exact bel.trans (bel2.mono hXV))⟩
end Go.Proofs.YtoldmigappbjcaaGreatDoor
namespace Go.GrainU
structure ShCap (x:ShT):Prop where
 k1:x.s.ra.length≤x.c1
 k2:x.s.fi.length≤x.c2
 k3:x.s.co.length≤x.c3
end Go.GrainU
