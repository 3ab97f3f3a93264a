import Derived.Deep.RegionHeld3
import Derived.Test.YtoldmigappbjcaaGreatDoorBaseRefused01
import Derived.Test.YtoldmigappbjcaaGreatDoorBaseRefused02
import Derived.Test.YtoldmigappbjcaaGreatDoorBaseRefused03
import Derived.Test.YtoldmigappbjcaaGreatDoorK31
namespace Go.Proofs.YtoldmigappbjcaaGreatDoor
open Go.RowKit Go.GrainU
set_option maxHeartbeats 400000 in
theorem smsame_any (l:List (Int×Int)) (ao bo:Option Addr) (n c c':Nat) (w:World) (ha:Seg w ao (scells l)) (hb:Seg w bo (scells l)) (hn:n=l.length) (hc:n≤9223372036854775807) :
  Calls Tryz.prog 83 #[.slice ao n c,.slice bo n c'] w fun e w'=>e=.returned (.bool true)∧Below w.heap.size w w':=by
 have HN:=hide hn
 clear hn
 have hz:((n:Int) != (n:Int))=false:=by simp
 go_enter Tryz.func83,Tryz.ntmps83
 go_wp2
 go_loopw [13] (fun i wr=>∃ (k:Nat),k≤n∧i=.int .i64 k∧Below w.heap.size w wr) (fun i _=>n-(intOf i).toNat)
 case atStart=>exact ⟨0,Nat.zero_le _,rfl,Below.refl _ _⟩
 case round =>
  obtain ⟨k,hk,rfl,bel⟩:=hrel
  by_cases hlt:k<n
  ·have hlt':k<l.length:=by rw [← HN.out];exact hlt
   obtain ⟨b,off,rfl,hcell⟩:=ha.sample hlt'
   obtain ⟨b',off',rfl,hcell'⟩:=hb.sample hlt'
   have hbl:b<w.heap.size:=World.block_lt_of_cell? w ⟨b,off+k*2,none⟩ (hcell k hlt').1
   have hbl':b'<w.heap.size:=World.block_lt_of_cell? w ⟨b',off'+k*2,none⟩ (hcell' k hlt').1
   have c0:wr.cell? ⟨b,off+k*2,none⟩=some (.int .i64 (Grain.tm l k)):=(bel.cell (by exact hbl)).trans (hcell k hlt').1
   have c1:wr.cell? ⟨b,off+k*2+1,none⟩=some (.int .i64 (Grain.vl l k)):=(bel.cell (by exact hbl)).trans (hcell k hlt').2
   have d0:wr.cell? ⟨b',off'+k*2,none⟩=some (.int .i64 (Grain.tm l k)):=(bel.cell (by exact hbl')).trans (hcell' k hlt').1
   have d1:wr.cell? ⟨b',off'+k*2+1,none⟩=some (.int .i64 (Grain.vl l k)):=(bel.cell (by exact hbl')).trans (hcell' k hlt').2
   clear hcell hcell' hlt'
   go_wp2
   go_quiet (fail)
   go_wp2
   go_roundw
   case rel=>exact ⟨k+1,by omega,by go_num,below_drewN bel _⟩
   case measure=>simp [intOf];omega
  ·go_wp2
   go_ret
   exact ⟨rfl,bel⟩
set_option maxHeartbeats 2000000 in
theorem ssame_any (x z:ShT) (w:World) (hx:ShIn w x) (hz:ShIn w z) (he:z.s=x.s) (h2:x.s.fi.length≤1000000) (h3:x.s.co.length≤1000000) :
  Calls Tryz.prog 52 #[x.v,z.v] w fun e w'=>e=.returned (.bool true)∧Below w.heap.size w w':=by
 obtain ⟨zs,A0,D0,A1,D1,A2,D2,A3,D3⟩:=z
 simp only at he
 subst he
 obtain ⟨m0,e0⟩:∃ m,m=x.s.se.length:=⟨_,rfl⟩
 obtain ⟨m1,e1⟩:∃ m,m=x.s.ra.length:=⟨_,rfl⟩
 obtain ⟨m2,e2⟩:∃ m,m=x.s.fi.length:=⟨_,rfl⟩
 obtain ⟨m3,e3⟩:∃ m,m=x.s.co.length:=⟨_,rfl⟩
 simp only [ShT.v,← e0,← e1,← e2,← e3]
 rw [← e2] at h2
 rw [← e3] at h3
 have hl0:m0≤9223372036854775807:=by have:=hx.n0;omega
 have hl1:m1≤9223372036854775807:=by have:=hx.n1;omega
 obtain ⟨X,hX⟩:∃ X,X=w.heap.size:=⟨_,rfl⟩
 obtain ⟨U,hU⟩:∃ U,U=w.alloc (.cells #[.slice x.a0 m0 x.c0,.slice x.a1 m1 x.c1,.slice x.a2 m2 x.c2,.slice x.a3 m3 x.c3,.int .i64 x.s.rf,.int .i64 x.s.ff,.int .i64 x.s.ft,.int .i64 x.s.cf,.int .i64 x.s.ct] 59):=⟨_,rfl⟩
 obtain ⟨V,hV⟩:∃ V,V=U.alloc (.cells #[.slice A0 m0 D0,.slice A1 m1 D1,.slice A2 m2 D2,.slice A3 m3 D3,.int .i64 x.s.rf,.int .i64 x.s.ff,.int .i64 x.s.ft,.int .i64 x.s.cf,.int .i64 x.s.ct] 59):=⟨_,rfl⟩
 have hUs:U.heap.size=X+1:=by rw [hU,hX];simp
 have bel:Below w.heap.size w V:=by rw [hV,hU];exact ((Below.refl _ _).alloc (Nat.le_refl _) _).alloc (by simp) _
 have B0:V.heap[X]?=some (sob (.slice x.a0 m0 x.c0) (.slice x.a1 m1 x.c1) (.slice x.a2 m2 x.c2) (.slice x.a3 m3 x.c3) (.int .i64 x.s.rf) (.int .i64 x.s.ff) (.int .i64 x.s.ft) (.int .i64 x.s.cf) (.int .i64 x.s.ct)):=by
  rw [hV,Below.heap_alloc _ _ _ (by omega),hU,hX];exact heap_alloc_new w _
 have C0:V.heap[X+1]?=some (sob (.slice A0 m0 D0) (.slice A1 m1 D1) (.slice A2 m2 D2) (.slice A3 m3 D3) (.int .i64 x.s.rf) (.int .i64 x.s.ff) (.int .i64 x.s.ft) (.int .i64 x.s.cf) (.int .i64 x.s.ct)):=by
  rw [hV,← hUs];exact heap_alloc_new _ _
 have HV:Hid (V=(w.alloc (.cells #[.slice x.a0 m0 x.c0,.slice x.a1 m1 x.c1,.slice x.a2 m2 x.c2,.slice x.a3 m3 x.c3,.int .i64 x.s.rf,.int .i64 x.s.ff,.int .i64 x.s.ft,.int .i64 x.s.cf,.int .i64 x.s.ct] 59)).alloc (.cells #[.slice A0 m0 D0,.slice A1 m1 D1,.slice A2 m2 D2,.slice A3 m3 D3,.int .i64 x.s.rf,.int .i64 x.s.ff,.int .i64 x.s.ft,.int .i64 x.s.cf,.int .i64 x.s.ct] 59)):=by rw [hV,hU];exact rfl
 have HX:=hide hX
 have hxV:=hx.below bel
 have hzV:=hz.below bel
 have H0:=hide e0
 have H1:=hide e1
 have H2:=hide e2
 have H3:=hide e3
 clear hU hV hX hUs hx hz e0 e1 e2 e3
 go_enter Tryz.func52,Tryz.ntmps52
 go_wp2_with fail
 rw [← HV.out,← HX.out]
 refine (sames_any x.s.se x.s.se x.a0 A0 m0 m0 x.c0 D0 V hxV.g0 hzV.g0 H0.out H0.out hl0).mono ?_
 rintro e w1 ⟨rfl,hb1⟩
 rw [show decide (x.s.se=x.s.se)=true from by simp]
 have bel1:Below w.heap.size w w1:=bel.trans (hb1.mono bel.size)
 have B1:=below_block hb1 B0
 have C1:=below_block hb1 C0
 have hx1:=hxV.below hb1
 have hz1:=hzV.below hb1
 obtain ⟨b0,b1,b2,b3,b4,b5,b6,b7,b8⟩:=sob_cells B1
 obtain ⟨c0,c1,c2,c3,c4,c5,c6,c7,c8⟩:=sob_cells C1
 clear HV hb1 B0 C0 hxV hzV bel
 go_wp2_with fail
 refine (smsame_any x.s.ra x.a1 A1 m1 x.c1 D1 w1 hx1.g1 hz1.g1 H1.out hl1).mono ?_
 rintro e w2 ⟨rfl,hb2⟩
 have bel2:Below w.heap.size w w2:=bel1.trans (hb2.mono bel1.size)
 have B2:=below_block hb2 B1
 have C2:=below_block hb2 C1
 have hx2:=hx1.below hb2
 have hz2:=hz1.below hb2
 clear b0 b1 b2 b3 b4 b5 b6 b7 b8 c0 c1 c2 c3 c4 c5 c6 c7 c8 hb2 B1 C1 hx1 hz1 bel1
 obtain ⟨b0,b1,b2,b3,b4,b5,b6,b7,b8⟩:=sob_cells B2
 obtain ⟨c0,c1,c2,c3,c4,c5,c6,c7,c8⟩:=sob_cells C2
 go_wp2_with fail
 refine (ksame_any x.s.fi x.a2 A2 m2 x.c2 D2 w2 hx2.g2 hz2.g2 H2.out h2).mono ?_
 rintro e w3 ⟨rfl,hb3⟩
 have bel3:Below w.heap.size w w3:=bel2.trans (hb3.mono bel2.size)
 have B3:=below_block hb3 B2
 have C3:=below_block hb3 C2
 have hx3:=hx2.below hb3
 have hz3:=hz2.below hb3
 clear b0 b1 b2 b3 b4 b5 b6 b7 b8 c0 c1 c2 c3 c4 c5 c6 c7 c8 hb3 B2 C2 hx2 hz2 bel2
 obtain ⟨b0,b1,b2,b3,b4,b5,b6,b7,b8⟩:=sob_cells B3
 obtain ⟨c0,c1,c2,c3,c4,c5,c6,c7,c8⟩:=sob_cells C3
 go_wp2_with fail
 refine (ksame_any x.s.co x.a3 A3 m3 x.c3 D3 w3 hx3.g3 hz3.g3 H3.out h3).mono ?_
 rintro e w4 ⟨rfl,hb4⟩
 have bel4:Below w.heap.size w w4:=bel3.trans (hb4.mono bel3.size)
 have B4:=below_block hb4 B3
 have C4:=below_block hb4 C3
 clear b0 b1 b2 b3 b4 b5 b6 b7 b8 c0 c1 c2 c3 c4 c5 c6 c7 c8 hb4 B3 C3 hx3 hz3 bel3
 obtain ⟨b0,b1,b2,b3,b4,b5,b6,b7,b8⟩:=sob_cells B4
 obtain ⟨c0,c1,c2,c3,c4,c5,c6,c7,c8⟩:=sob_cells C4
 go_wp2
 go_ret
 exact ⟨rfl,bel4⟩
set_option maxRecDepth 20000 in
set_option maxHeartbeats 4000000 in
theorem sbase_any (l m:List ShT) (lo lo':Nat) (ao bo:Option Addr) (n c c':Nat) (hz:Int) (w:World) (ha:RowS w lo (.slice ao n c) n l) (hb:RowS w lo' (.slice bo n c') n m) (he:l.map (fun x=>x.s)=m.map (fun x=>x.s)) (hn8:n≤8) (h5:∀ x∈l,x.s.fi.length≤500∧x.s.co.length≤500) :
  Calls Tryz.prog 21 #[.agg #[.slice ao n c,.int .i64 hz],.agg #[.slice bo n c',.int .i64 hz]] w fun e w'=>e=.returned (.bool true)∧Below w.heap.size w w':=by
 obtain ⟨W,hW⟩:∃ W,W=(w.alloc (.cells #[.slice ao n c,.int .i64 hz] 26)).alloc (.cells #[.slice bo n c',.int .i64 hz] 26):=⟨_,rfl⟩
 have bel:Below w.heap.size w W:=by rw [hW];exact ((Below.refl _ _).alloc (Nat.le_refl _) _).alloc (by simp) _
 have A0:W.heap[w.heap.size]?=some (.cells #[.slice ao n c,.int .i64 hz] 26 (0,0)):=by rw [hW,Below.heap_alloc _ _ _ (by simp)];exact heap_alloc_new w _
 have B0:W.heap[w.heap.size+1]?=some (.cells #[.slice bo n c',.int .i64 hz] 26 (0,0)):=by
  have:=heap_alloc_new (w.alloc (.cells #[.slice ao n c,.int .i64 hz] 26)) (.cells #[.slice bo n c',.int .i64 hz] 26)
  rw [hW];simpa using this
 have hna:=ha.len
 have hnb:=hb.len
 have HNA:=hide hna
 have HNB:=hide hnb
 have HA:=hide ha
 have HB:=hide hb
 have HE:=hide he
 have H5:=hide h5
 have HW:=hide hW
 have A0':=hide A0
 have B0':=hide B0
 obtain ⟨a0,a1,-,-⟩:=two_cells A0
 obtain ⟨b0',b1,-,-⟩:=two_cells B0
 clear hW hna hnb ha hb he h5 A0 B0
 go_enter Tryz.func21,Tryz.ntmps21
 go_upto_region 1 with fail
 rw [← HW.out]
 go_wp2
 go_loopw [23] (fun i wr=>∃ k:Nat,k≤n∧i=.int .i64 k∧Below W.heap.size W wr) (fun i _=>n-(intOf i).toNat)
 case atStart=>exact ⟨0,Nat.zero_le _,rfl,Below.refl _ _⟩
 case round =>
  obtain ⟨k,hk,rfl,belr⟩:=hrel
  clear a0 a1 b0' b1
  by_cases hlt:k<n
  ·have hka:k<l.length:=by rw [← HNA.out];exact hlt
   have hkb:k<m.length:=by rw [← HNB.out];exact hlt
   obtain ⟨bb,off,rfl,hbb,hcell⟩:=seg_shelf HA.out.seg hka
   obtain ⟨bb',off',rfl,hbb',hcell'⟩:=seg_shelf HB.out.seg hkb
   obtain ⟨x,hx⟩:∃ x,x=sht l k:=⟨_,rfl⟩
   obtain ⟨z,hz'⟩:∃ z,z=sht m k:=⟨_,rfl⟩
   have belw:∀ W',Below wr.heap.size wr W'→Below w.heap.size w W':=fun W' h=>below_step h (bel.trans (belr.mono bel.size))
   have xin:ShIn w x:=by rw [hx];exact (HA.out.shs _ (sht_mem hka)).shIn
   have zin:ShIn w z:=by rw [hz'];exact (HB.out.shs _ (sht_mem hkb)).shIn
   have hxz:z.s=x.s:=by
    have:=congrArg (fun L=>L[k]?) HE.out
    simp [hka,hkb] at this
    rw [hx,hz',sht_get hka,sht_get hkb,this]
   have x5:=H5.out x (by rw [hx];exact sht_mem hka)
   have HP:=hide (fun W' (h:Below wr.heap.size wr W')=>ssame_any x z W' (xin.below (belw W' h)) (zin.below (belw W' h)) hxz (by omega) (by omega))
   have HC:Hid (∀ W',Below wr.heap.size wr W'→(W'.cell? ⟨w.heap.size,0,none⟩=some (.slice (some ⟨bb,off,none⟩) n c)∧W'.cell? ⟨w.heap.size+1,0,none⟩=some (.slice (some ⟨bb',off',none⟩) n c'))∧Cells9 W' bb (off+k*9) x∧Cells9 W' bb' (off'+k*9) z):=by
    intro W' h
    have hB:=below_step h belr
    have h1:=below_block hB A0'.out
    have h2:=below_block hB B0'.out
    have h3:=belw W' h
    exact ⟨⟨by simp [World.cell?,h1],by simp [World.cell?,h2]⟩,by rw [hx];exact (hcell k hka).below h3 hbb,by rw [hz'];exact (hcell' k hkb).below h3 hbb'⟩
   obtain ⟨⟨p0,p1⟩,⟨x0,x1,x2,x3,x4,x5',x6,x7,x8⟩,⟨z0,z1,z2,z3,z4,z5,z6,z7,z8⟩⟩:=HC.out wr (Below.refl _ _)
   have hki:(k:Int)<(n:Int):=by omega
   have BD:Below wr.heap.size wr wr.drew:=below_drewN (Below.refl _ _) 1
   unfold ShT.v at HP
   clear hx hz' hcell hcell' hka hkb xin zin hxz x5 belw
   go_wp2_with fail
   go_region_with
    (first
     | (go_at_call 52;refine (HP.out _ BD).mono ?_;rintro e w1 ⟨rfl,b1'⟩))
   all_goals have bz:=BD.trans b1'
   all_goals have bel1:=below_step bz belr
   all_goals clear HP HC p0 p1 x0 x1 x2 x3 x4 x5' x6 x7 x8 z0 z1 z2 z3 z4 z5 z6 z7 z8 b1' bz
   all_goals go_wp2
   all_goals go_roundw
   all_goals first
    | exact ⟨k+1,by omega,by go_num,bel1⟩
    | (simp [intOf];omega)
  ·have hb2:=bel.trans (belr.mono bel.size)
   go_wp2
   go_ret
   exact ⟨rfl,hb2⟩
open Go.RowKit Go.GrainU
theorem out_at {w:World} {lo n d:Nat} {oo:Option Addr} {ys:List AT} (h:OutS w lo (.slice oo n d) n ys) {k:Nat} (hk:k<n) :
  ∃ b off,oo=some ⟨b,off,none⟩∧b<w.heap.size∧∀ j,j<4→w.cell? ⟨b,off+k*4+j,none⟩=(ys.getD k at0).cells[j]?:=by
 have hl:=h.len
 have hal:=acells4_length ys
 rcases own_seg' h.own with h0 | ⟨b,off,h1,h2⟩
 ·rw [h0] at hal
  simp at hal
  omega
 ·have hc:∀ j,j<4→w.cell? ⟨b,off+k*4+j,none⟩=(ys.getD k at0).cells[j]?:=fun j hj=>by
   rw [show (ys.getD k at0).cells[j]?=(acells4 ys)[k*4+j]? from (acells4_at ys k j (by omega) hj).symm,Nat.add_assoc];exact h2 (k*4+j) (by omega)
  exact ⟨b,off,h1,World.block_lt_of_cell? w ⟨b,off+k*4+0,none⟩ (u:=.int .i64 (ys.getD k at0).a.err) (hc 0 (by omega)),hc⟩
set_option maxRecDepth 20000 in
set_option maxHeartbeats 8000000 in
theorem lref_any (l:List DT) (ao:Option Addr) (n cap:Nat) (w:World) (hs:Seg w ao (dcells l)) (hd:∀ x∈l,DIn w x) (hn:n=l.length) (hv:ErrV w) :
  Calls Tryz.prog 6 #[.slice ao n cap] w fun e w'=>e=.returned (.bool true)∧Below w.heap.size w w':=by
 obtain ⟨i0,hi,hz0,hz1,hz2⟩:=sinfo_parts Tryz.infoDo
 have P0:=hide (lalive_any w hv)
 have HP:=hide (fun (W:World) (hb:Below w.heap.size w W)=>play_any l ao n cap W (hs.below hb) (fun x hx=>(hd x hx).below hb) hn (hv.below hb))
 have HP2:=hide (fun (W:World) (hb:Below w.heap.size w W) (gs:List DT) (go:Option Addr) (N d:Nat) (hsg:Seg W go (dcells gs)) (hsub:∀ x∈gs,x∈l) (hN:N=gs.length)=>play_any gs go N d W hsg (fun x hx=>(hd x (hsub x hx)).below hb) hN (hv.below hb))
 have HS:=hide hs
 have HN:=hide hn
 clear hs hd hn hv
 go_enter Tryz.func6,Tryz.ntmps6
 go_wp2_with fail
 refine P0.out.mono ?_
 rintro e w1 ⟨rfl,b1⟩
 have P1:=hide (HP.out w1 b1)
 clear P0 HP
 go_wp2_with fail
 refine P1.out.mono ?_
 intro e w2 hh
 have HH:=hide hh
 clear hh P1
 rcases HH.out with ⟨h120,rfl,b2⟩ | ⟨h120,ro,oo,rn,rc,d,hz,sl,ys,rfl,hrow,hli,hhz,hout,hys,b2⟩
 ·have bel2:=below_step b2 b1
  have HB:Hid (∀ o,Below w.heap.size w (w2.alloc o)):=fun o=>bel2.alloc bel2.size _
  clear HH b2 bel2 HP2
  go_wp2
  go_ret
  exact ⟨rfl,HB.out _⟩
 ·have bel2:=below_step b2 b1
  obtain ⟨A,hA⟩:∃ A,A=(playB b0 (dns l)).2:=⟨_,rfl⟩
  obtain ⟨F,hF⟩:∃ F,F=(playB b0 (dns l)).1:=⟨_,rfl⟩
  have hpure:=refused_pure l b0
  have hAl:A.length=l.length:=by rw [hA,playB_len];simp [dns]
  have hFi:BInv F:=by rw [hF];exact playB_inv _ b0_inv
  rw [← hA,← hF] at hpure
  rw [← hA] at hys
  rw [← hF] at hli hhz
  rw [← HN.out] at hout h120 hAl ⊢
  obtain ⟨W2,hW2⟩:∃ W2,W2=w2.alloc (.cells #[.slice ro rn rc,.int .i64 hz] 26):=⟨_,rfl⟩
  have b3:Below w2.heap.size w2 W2:=by rw [hW2];exact (Below.refl _ _).alloc (Nat.le_refl _) _
  have bel3:=below_step b3 bel2
  have X3:W2.heap[w2.heap.size]?=some (.cells #[.slice ro rn rc,.int .i64 hz] 26 (0,0)):=by rw [hW2];exact heap_alloc_new w2 _
  have HRow:=hide (hrow.below b3)
  have HLi:=hide hli
  have HHz:=hide hhz
  have HOut:=hide (hout.below b3)
  have HYs:=hide hys
  have HPu:=hide hpure
  have HAl:=hide hAl
  have HFi:=hide hFi
  have HX3:=hide X3
  have HW2:=hide hW2
  clear HH hrow hli hhz hout hys hA hF hpure hAl hFi b2 b3 bel2 b1 hW2 X3
  go_upto_region 4 with fail
  rw [← HW2.out]
  go_wp2
  go_loopw [6,24] (fun g i wr=>∃ (k N d:Nat) (go:Option Addr),k≤n∧i=.int .i64 k∧g=.slice go N d∧N≤k∧wr.ownsRow W2.heap.size 36 7 (.slice go N d) N (dcells (goods (l.take k) (A.take k)))∧Below W2.heap.size W2 wr) (fun _ i _=>n-(intOf i).toNat)
  case atStart=>exact ⟨0,0,0,none,Nat.zero_le _,rfl,rfl,Nat.le_refl _,by simpa [goods,dcells] using World.ownsRow_nil _ _ _ _,Below.refl _ _⟩
  case round =>
   obtain ⟨k,N,d',go,hk,rfl,rfl,hNk,own,bel⟩:=hrel
   by_cases hlt:k<n
   ·have hkl:k<l.length:=by rw [← HN.out];exact hlt
    have belw:=below_step bel bel3
    obtain ⟨bb,off,rfl,hbb,hcell⟩:=seg_do HS.out hkl
    obtain ⟨ob,ooff,rfl,hob,hocell⟩:=out_at HOut.out hlt
    obtain ⟨x,hx⟩:∃ x,x=dtt l k:=⟨_,rfl⟩
    obtain ⟨y,hy⟩:∃ y,y=ys.getD k at0:=⟨_,rfl⟩
    have cc:∀ i,i<7→wr.cell? ⟨bb,off+k*7+i,none⟩=x.cells[i]?:=fun i hi=>by rw [hx];exact (belw.cell (p:=⟨bb,_,none⟩) hbb).trans (hcell k hkl i hi)
    have q0:wr.cell? ⟨bb,off+k*7,none⟩=some (.int .i64 x.d.kind):=cc 0 (by omega)
    have q1:wr.cell? ⟨bb,off+k*7+1,none⟩=some (.int .i64 x.d.tier):=cc 1 (by omega)
    have q2:wr.cell? ⟨bb,off+k*7+2,none⟩=some (.int .i64 x.d.till):=cc 2 (by omega)
    have q3:wr.cell? ⟨bb,off+k*7+3,none⟩=some (.slice x.sa x.d.se.length x.sc):=cc 3 (by omega)
    have q4:wr.cell? ⟨bb,off+k*7+4,none⟩=some (.int .i64 x.d.t):=cc 4 (by omega)
    have q5:wr.cell? ⟨bb,off+k*7+5,none⟩=some (.int .i64 x.d.v):=cc 5 (by omega)
    have q6:wr.cell? ⟨bb,off+k*7+6,none⟩=some (.string x.d.tx):=cc 6 (by omega)
    have o0:wr.cell? ⟨ob,ooff+k*4,none⟩=some (.int .i64 y.a.err):=by
     have:=(bel.cell (p:=⟨ob,ooff+k*4+0,none⟩) hob).trans (hocell 0 (by omega))
     rw [← hy] at this
     exact this
    have hyl:=HOut.out.len
    have hkA:k<A.length:=by rw [HAl.out];exact hlt
    have hya:A[k]=y.a:=by
     have h1:=congrArg (fun L=>L[k]?) HYs.out
     have hky:k<ys.length:=by omega
     simp only [List.getElem?_map,List.getElem?_eq_getElem hky,List.getElem?_eq_getElem hkA,Option.map_some] at h1
     injection h1 with h1
     rw [← h1,hy]
     simp [List.getD,List.getElem?_eq_getElem hky]
    have HG:Hid (goods (l.take (k+1)) (A.take (k+1))=goods (l.take k) (A.take k)++(if y.a.err=0∧x.d.kind≠4 then [x] else [])):=by
     show _=_
     rw [List.take_add_one (l:=l),List.getElem?_eq_getElem hkl,List.take_add_one (l:=A),List.getElem?_eq_getElem hkA]
     simp only [Option.toList_some]
     rw [goods_snoc _ _ _ _ (by simp;omega),hya,hx,dtt_get hkl]
    obtain ⟨E,hE⟩:∃ E,E=y.a.err:=⟨_,rfl⟩
    obtain ⟨K,hK⟩:∃ K,K=x.d.kind:=⟨_,rfl⟩
    rw [← hE] at HG o0
    rw [← hK] at HG q0
    have hki:(k:Int)<(n:Int):=by omega
    obtain ⟨m,hm⟩:∃ m,m=x.d.se.length:=⟨_,rfl⟩
    rw [← hm] at q3
    have HXc:Hid (x.cells=[.int .i64 K,.int .i64 x.d.tier,.int .i64 x.d.till,.slice x.sa m x.sc,.int .i64 x.d.t,.int .i64 x.d.v,.string x.d.tx]):=by show _=_;rw [hK,hm];rfl
    clear hcell hocell cc hx hy hyl hkA hya hE hK hm hkl belw
    by_cases hE0:E=0
    ·by_cases hK4:K=4
     ·have HG2:Hid (goods (l.take (k+1)) (A.take (k+1))=goods (l.take k) (A.take k)):=by show _=_;rw [HG.out,if_neg (fun h=>h.2 hK4)];simp
      have own':wr.ownsRow W2.heap.size 36 7 (.slice go N d') N (dcells (goods (l.take (k+1)) (A.take (k+1)))):=by rw [HG2.out];exact own
      subst hE0
      subst hK4
      clear HG HG2 own
      go_wp2
      go_roundw
      case rel=>exact ⟨k+1,N,d',go,by omega,by go_num,rfl,by omega,own',bel⟩
      case measure=>simp [intOf];omega
     ·have HG2:Hid (goods (l.take (k+1)) (A.take (k+1))=goods (l.take k) (A.take k)++[x]):=by show _=_;rw [HG.out,if_pos ⟨hE0,hK4⟩]
      have hK5:(K != 4)=true:=by simpa using hK4
      obtain ⟨V,hV⟩:∃ V,V=wr.alloc (.cells #[.int .i64 K,.int .i64 x.d.tier,.int .i64 x.d.till,.slice x.sa m x.sc,.int .i64 x.d.t,.int .i64 x.d.v,.string x.d.tx] 36):=⟨_,rfl⟩
      have bV:Below wr.heap.size wr V:=by rw [hV];exact (Below.refl _ _).alloc (Nat.le_refl _) _
      have ownV:=own_below own bV
      have belV:=below_step bV bel
      have HNB:Hid (∀ j u,[Value.int .i64 K,.int .i64 x.d.tier,.int .i64 x.d.till,.slice x.sa m x.sc,.int .i64 x.d.t,.int .i64 x.d.v,.string x.d.tx][j]?=some u→V.cell? ((⟨wr.heap.size,0,none⟩:Addr).add j)=some u):=by
       refine seg_news ?_
       rw [hV]
       have:=seg_new wr #[.int .i64 K,.int .i64 x.d.tier,.int .i64 x.d.till,.slice x.sa m x.sc,.int .i64 x.d.t,.int .i64 x.d.v,.string x.d.tx] 36
       simpa using this
      have H1:Hid (∀ u∈[Value.int .i64 K,.int .i64 x.d.tier,.int .i64 x.d.till,.slice x.sa m x.sc,.int .i64 x.d.t,.int .i64 x.d.v,.string x.d.tx],u.oneCell'=true):=by
       intro u hu
       simp only [List.mem_cons,List.not_mem_nil,or_false] at hu
       rcases hu with e | e | e | e | e | e | e <;> (subst e;rfl)
      have hs2:V.heap.size=wr.heap.size+1:=by rw [hV];simp
      have hws:W2.heap.size≤V.heap.size:=belV.size
      have HV1:=hide hV
      subst hE0
      clear HG own hV bV hK4
      go_wp2_with (rw [← HV1.out];at_builtin;refine wpList_append_lies _ rfl _ _ 22 rfl W2.heap.size 36 i0 (.agg #[.int .i64 0,.int .i64 0,.int .i64 0,.slice none 0 0,.int .i64 0,.int .i64 0,.string ⟨#[]⟩]) 7 80 Tryz.underlying22 hi hz0 hz1 hz2 rfl (by decide) _ _ _ rfl ownV ⟨wr.heap.size,0,none⟩ 1 1 [.int .i64 K,.int .i64 x.d.tier,.int .i64 x.d.till,.slice x.sa m x.sc,.int .i64 x.d.t,.int .i64 x.d.v,.string x.d.tx] rfl rfl HNB.out H1.out (by decide) (by unfold maxLen;omega) (by omega) hws (wr.heap.size+1) hs2 ?_)
      intro g' cp' wz ownZ grZ hatZ hltZ
      have own':wz.ownsRow W2.heap.size 36 7 (.slice (some ⟨g',0,none⟩) (N+1) cp') (N+1) (dcells (goods (l.take (k+1)) (A.take (k+1)))):=by
       rw [HG2.out,dcells_append]
       show wz.ownsRow _ _ _ _ _ (_++(x.cells++[]))
       rw [List.append_nil,HXc.out]
       exact ownZ
      have belZ:Below W2.heap.size W2 wz:=belV.grown grZ hws (fun j hj=>(own_base ownV j hj).1)
      clear ownV ownZ grZ hatZ hltZ HNB HG2 belV
      go_wp2
      go_roundw
      case rel=>exact ⟨k+1,N+1,cp',_,by omega,by go_num,rfl,by omega,own',belZ⟩
      case measure=>simp [intOf];omega
    ·have HG2:Hid (goods (l.take (k+1)) (A.take (k+1))=goods (l.take k) (A.take k)):=by show _=_;rw [HG.out,if_neg (fun h=>hE0 h.1)];simp
     have own':wr.ownsRow W2.heap.size 36 7 (.slice go N d') N (dcells (goods (l.take (k+1)) (A.take (k+1)))):=by rw [HG2.out];exact own
     have hE1:(E == 0)=false:=by simpa using hE0
     clear HG HG2 own hE0
     go_wp2
     go_roundw
     case rel=>exact ⟨k+1,N,d',go,by omega,by go_num,rfl,by omega,own',bel⟩
     case measure=>simp [intOf];omega
   ·have he:k=n:=by omega
    subst he
    have e1:l.take k=l:=List.take_of_length_le (by rw [← HN.out];exact Nat.le_refl _)
    have e2:A.take k=A:=List.take_of_length_le (by rw [HAl.out];exact Nat.le_refl _)
    rw [e1,e2] at own
    obtain ⟨gs,hgs⟩:∃ gs,gs=goods l A:=⟨_,rfl⟩
    have hgl:gs.length≤120:=by rw [hgs];have:=goods_len l A;have:=HN.out;omega
    rw [← hgs] at own
    have hNg:N=gs.length:=by have:=own.1;rw [dcells_length] at this;omega
    have belw:=below_step bel bel3
    have P3:=hide (HP2.out wr belw gs go N d' (own_seg' own) (fun x hx=>goods_mem l A x (by rw [← hgs];exact hx)) hNg)
    have HPu2:=HPu.out
    rw [← hgs] at HPu2
    have HP3:=hide HPu2
    have HNg:=hide hNg
    obtain ⟨X,hX⟩:∃ X,X=w2.heap.size:=⟨_,rfl⟩
    have Xr:=below_block bel HX3.out
    have rowr:=HRow.out.below bel
    rw [← hX] at Xr ⊢
    clear own e1 e2 hgs HP2 HPu HPu2 HX3 HRow HOut hX hNg
    go_wp2_with fail
    refine P3.out.mono ?_
    intro e w4 hh
    have HH:=hide hh
    clear hh P3
    rcases HH.out with ⟨h121,_⟩ | ⟨h121,ro2,oo2,rn2,rc2,d2,hz2,sl2,ys2,rfl,hrow2,hli2,hhz2,hout2,hys2,b4⟩
    ·have:=HNg.out;omega
    ·have hNg:=HNg.out
     have bel4:=below_step b4 belw
     rw [HP3.out.1] at hli2 hhz2
     have hzz:hz2=hz:=by rw [hhz2,HHz.out]
     have hrr:rn2=rn:=by
      have h1:=hrow2.len
      have h2:=hli2.len
      have h3:=rowr.len
      have h4:=HLi.out.len
      omega
     have herr:∀ j,j<N→(ys2.getD j at0).a.err=0:=by
      intro j hj
      have hyl:=hout2.len
      have hjy:j<ys2.length:=by omega
      refine HP3.out.2 _ ?_
      rw [← hys2]
      simp only [List.getD,List.getElem?_eq_getElem hjy,Option.getD_some]
      exact List.mem_map_of_mem (List.getElem_mem hjy)
     have hmap:sl.map (fun x=>x.s)=sl2.map (fun x=>x.s):=by rw [show sl.map (fun x=>x.s)=F.l.map (fun k=>k.s) from HLi.out,show sl2.map (fun x=>x.s)=F.l.map (fun k=>k.s) from hli2]
     have hn8:rn≤8:=by
      have h3:=rowr.len
      have h4:=HLi.out.len
      have h5:=HFi.out.len
      omega
     have h500:∀ x∈sl,x.s.fi.length≤500∧x.s.co.length≤500:=by
      intro x hx
      obtain ⟨j,hj,rfl⟩:=List.mem_iff_getElem.1 hx
      have e:=HLi.out.at hj
      rw [sht_get hj] at e
      rw [e]
      have hk:=HFi.out.kee (kp F.l j) (kp_mem (by rw [← HLi.out.len];exact hj))
      exact ⟨hk.sr.flen,hk.sr.clen⟩
     rw [hzz,← hNg]
     rw [hrr] at hrow2 ⊢
     rw [← hNg] at hout2
     obtain ⟨W4,hW4⟩:∃ W4,W4=w4.alloc (.cells #[.slice ro2 rn rc2,.int .i64 hz] 26):=⟨_,rfl⟩
     have b5:Below w4.heap.size w4 W4:=by rw [hW4];exact (Below.refl _ _).alloc (Nat.le_refl _) _
     have bel5:=below_step b5 bel4
     have X4:=below_block b5 (below_block b4 Xr)
     have Y4:W4.heap[w4.heap.size]?=some (.cells #[.slice ro2 rn rc2,.int .i64 hz] 26 (0,0)):=by rw [hW4];exact heap_alloc_new w4 _
     have row4:=(rowr.below b4).below b5
     have row5:=hrow2.below b5
     have HO:=hide (hout2.below b5)
     have HER:=hide herr
     have HSB:=hide (fun (W':World) (h:Below W4.heap.size W4 W')=>sbase_any sl sl2 _ _ ro ro2 rn rc rc2 hz W' (row4.below h) (row5.below h) hmap hn8 h500)
     have HW4:=hide hW4
     have hN120:N≤120:=by omega
     clear HH hrow2 hli2 hhz2 hout2 hys2 HP3 hzz hrr herr hmap h500 row4 row5 rowr Xr hW4 b4 b5 bel4 belw bel HLi HHz HFi h121 hNg
     go_upto_region 14 with fail
     rw [← HW4.out]
     go_wp2
     go_loopw [57] (fun i wq=>∃ k:Nat,k≤N∧i=.int .i64 k∧Below W4.heap.size W4 wq) (fun i _=>N-(intOf i).toNat)
     case atStart=>exact ⟨0,Nat.zero_le _,rfl,Below.refl _ _⟩
     case round =>
      obtain ⟨q,hq,hqi,belq⟩:=hrel
      subst hqi
      by_cases hql:q<N
      ·obtain ⟨ob,ooff,rfl,hob,hocell⟩:=out_at HO.out hql
       obtain ⟨y,hy⟩:∃ y,y=ys2.getD q at0:=⟨_,rfl⟩
       have hy0:y.a.err=0:=by rw [hy];exact HER.out q hql
       have cc:∀ j,j<4→wr.cell? ⟨ob,ooff+q*4+j,none⟩=y.cells[j]?:=fun j hj=>by rw [hy];exact (belq.cell (p:=⟨ob,_,none⟩) hob).trans (hocell j hj)
       have c0:wr.cell? ⟨ob,ooff+q*4,none⟩=some (.int .i64 0):=by rw [← hy0];exact cc 0 (by omega)
       have c1:wr.cell? ⟨ob,ooff+q*4+1,none⟩=some (.int .i64 y.a.pos):=cc 1 (by omega)
       have c2:wr.cell? ⟨ob,ooff+q*4+2,none⟩=some (.slice y.co y.cts.length y.cap):=cc 2 (by omega)
       have c3:wr.cell? ⟨ob,ooff+q*4+3,none⟩=some (.int .i64 y.a.cost):=cc 3 (by omega)
       have HBq:Hid (∀ o,Below W4.heap.size W4 (wr.alloc o)):=fun o=>belq.alloc belq.size _
       have hqi:(q:Int)<(N:Int):=by omega
       clear hocell cc hy hy0 belq
       go_wp2
       go_roundw
       case rel=>exact ⟨q+1,by omega,by go_num,HBq.out _⟩
       case measure=>simp [intOf];omega
      ·have hqN:q=N:=by omega
       have X5:=below_block belq X4
       have Y5:=below_block belq Y4
       obtain ⟨x0,x1,-,-⟩:=two_cells X5
       obtain ⟨z0,z1,-,-⟩:=two_cells Y5
       have P5:=hide (HSB.out wr belq)
       have bel6:=below_step belq bel5
       clear X5 Y5 HSB HO HER belq
       subst hqN
       go_wp2_with fail
       refine P5.out.mono ?_
       rintro e w9 ⟨rfl,b9⟩
       have bel9:=below_step b9 bel6
       clear P5
       go_wp2
       go_ret
       exact ⟨rfl,bel9⟩
end Go.Proofs.YtoldmigappbjcaaGreatDoor
