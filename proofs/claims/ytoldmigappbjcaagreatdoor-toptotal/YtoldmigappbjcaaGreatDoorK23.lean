import Derived.Test.YtoldmigappbjcaaGreatDoorK15
import Derived.Test.YtoldmigappbjcaaGreatDoorK16
import Derived.Test.YtoldmigappbjcaaGreatDoorK18
import Derived.Test.YtoldmigappbjcaaGreatDoorK19
import Derived.Test.YtoldmigappbjcaaGreatDoorK20
import Derived.Test.YtoldmigappbjcaaGreatDoorK22
namespace Grain
theorem pcost_le {s:Shf} (h1:s.ra.length≤500) (h2:s.fi.length≤500) (h3:s.co.length≤500) (p:Pt):pcost s p≤500:=by
 unfold pcost
 split
 ·exact Nat.le_trans (List.length_filter_le _ _) h2
 ·split
  ·exact Nat.le_trans (List.length_filter_le _ _) h3
  ·exact Nat.le_trans (List.length_filter_le _ _) h1
end Grain
namespace Go.Proofs.YtoldmigappbjcaaGreatDoor
open Go.RowKit Go.GrainU
set_option maxRecDepth 20000 in
set_option maxHeartbeats 4000000 in
theorem read_any (x:ShT) (l:List Grain.Pt) (ao:Option Addr) (n c:Nat) (w:World) (hx:ShIn w x) (hcap:ShCap x) (hs:Seg w ao (pcells l)) (hn:n=l.length) (hL:n≤1000000000000000) :
  Calls Tryz.prog 143 #[x.v,.slice ao n c] w fun e w'=>∃ (J:Grain.Sm) (N E:Int),e=.returned (.tuple #[.agg #[.int .i64 J.c,.int .i64 J.t,.int .i64 J.mn,.int .i64 J.mx,.int .i64 J.f,.int .i64 J.l,.int .i64 J.r],.int .i64 N,.int .i64 E])∧Hid (Grain.read x.s l=(J,N,E))∧Below w.heap.size w w':=by
 have HN:=hide hn
 clear hn
 obtain ⟨X,hX⟩:∃ X,X=w.heap.size:=⟨_,rfl⟩
 obtain ⟨V,hV⟩:∃ V,V=(w.alloc (so x)).alloc (.cells #[.int .i64 0,.int .i64 0,.int .i64 0,.int .i64 0,.int .i64 0,.int .i64 0,.int .i64 0] 76):=⟨_,rfl⟩
 have bel:Below w.heap.size w V:=by rw [hV];exact ((Below.refl _ _).alloc (Nat.le_refl _) _).alloc (by simp) _
 have S0:V.heap[X]?=some (so x):=by rw [hV,hX,Below.heap_alloc _ _ _ (by simp)];exact heap_alloc_new w _
 have Z0:SumAt V (X+1) Grain.zero:=by
  show V.heap[X+1]?=_
  rw [hV,hX];have:=heap_alloc_new (w.alloc (so x)) (.cells #[.int .i64 0,.int .i64 0,.int .i64 0,.int .i64 0,.int .i64 0,.int .i64 0,.int .i64 0] 76);rwa [World.size_alloc] at this
 have hxV:=hx.below bel
 have hsV:=hs.below bel
 have HV:Hid (V=(w.alloc (.cells #[.slice x.a0 x.s.se.length x.c0,.slice x.a1 x.s.ra.length x.c1,.slice x.a2 x.s.fi.length x.c2,.slice x.a3 x.s.co.length x.c3,.int .i64 x.s.rf,.int .i64 x.s.ff,.int .i64 x.s.ft,.int .i64 x.s.cf,.int .i64 x.s.ct] 59)).alloc (.cells #[.int .i64 0,.int .i64 0,.int .i64 0,.int .i64 0,.int .i64 0,.int .i64 0,.int .i64 0] 76)):=hV
 have HX:=hide hX
 have Hv:Hid (x.v=.agg #[.slice x.a0 x.s.se.length x.c0,.slice x.a1 x.s.ra.length x.c1,.slice x.a2 x.s.fi.length x.c2,.slice x.a3 x.s.co.length x.c3,.int .i64 x.s.rf,.int .i64 x.s.ff,.int .i64 x.s.ft,.int .i64 x.s.cf,.int .i64 x.s.ct]):=rfl
 obtain ⟨E,hE⟩:∃ E,E=Grain.swrong x.s:=⟨_,rfl⟩
 have HE:=hide hE
 clear hV hX hE hx hs
 rw [Hv.out]
 go_enter Tryz.func143,Tryz.ntmps143
 go_wp2_with fail
 rw [← HV.out,← Hv.out]
 refine (swrong_any x V hxV).mono ?_
 rintro e w1 ⟨rfl,hb1⟩
 rw [← HE.out,← HX.out]
 have bel1:Below w.heap.size w w1:=below_pl hb1 bel
 have S1:=below_block hb1 S0
 have Z1:=Z0.below hb1
 have hx1:=hxV.below hb1
 have hs1:=hsV.below hb1
 clear hb1 S0 Z0 hxV hsV
 by_cases hw:E=0
 ·subst hw
  have sr:=(Grain.sr_iff x.s).1 HE.out.symm
  obtain ⟨b,hb⟩:∃ b,b=Grain.fol x.s l:=⟨_,rfl⟩
  have HB:=hide hb
  clear hb
  obtain ⟨x0,x1,x2,x3,x4,x5,x6,x7,x8⟩:=nine_cells S1
  go_wp2_with fail
  refine (follow_any x.s _ _ _ _ l ao n c b w1 hs1 HN.out hL HB.out).mono ?_
  rintro e w2 ⟨rfl,hb2⟩
  have bel2:Below w.heap.size w w2:=below_pl hb2 bel1
  have S2:=below_block hb2 S1
  have Z2:=Z1.below hb2
  have hx2:=hx1.below hb2
  have hs2:=hs1.below hb2
  clear hb2 S1 Z1 hx1 hs1 x0 x1 x2 x3 x4 x5 x6 x7 x8 bel1
  cases b
  ·obtain ⟨z0,z1,z2,z3,z4,z5,z6⟩:=Z2.cells
   obtain ⟨y0,y1,y2,y3,y4,y5,y6⟩:=seven_thaw Z2
   have HR:Hid (Grain.read x.s l=(Grain.zero,0,8)):=by
    show _=_
    rw [Grain.read,if_neg (by simp [← HE.out]),if_pos HB.out.symm]
   go_wp2
   exact bodyPost_ret (v:=.tuple #[.agg #[.int .i64 0,.int .i64 0,.int .i64 0,.int .i64 0,.int .i64 0,.int .i64 0,.int .i64 0],.int .i64 0,.int .i64 8]) (by simp [results,Tryz.results143,go_sem,z0,z1,z2,z3,z4,z5,z6]) rfl ⟨Grain.zero,0,8,rfl,HR,below_set7 bel2 (by have:=HX.out;omega) _ _ _ _ _ _ _⟩
  ·have HR:Hid (Grain.read x.s l=(Grain.rdS x.s l,(Grain.rdN x.s l:Int),0)):=by
    show _=_
    rw [Grain.read,if_neg (by simp [← HE.out]),if_neg (by rw [← HB.out];decide)]
   have HO:=hide ((Grain.fol_iff x.s l).1 HB.out.symm)
   obtain ⟨B,hB⟩:∃ B,B=w2.heap.size:=⟨_,rfl⟩
   obtain ⟨U,hU⟩:∃ U,U=w2.alloc (.cells #[.int .i64 0,.int .i64 0,.int .i64 0,.int .i64 0,.int .i64 0,.int .i64 0,.int .i64 0] 76):=⟨_,rfl⟩
   have A0:SumAt U B Grain.zero:=by show U.heap[B]?=_;rw [hU,hB];exact heap_alloc_new w2 _
   have belU:Below w2.heap.size w2 U:=by rw [hU];exact (Below.refl _ _).alloc (Nat.le_refl _) _
   have HU:=hide hU
   have HBB:=hide hB
   clear hU hB
   go_wp2
   rw [← HU.out,← HBB.out]
   go_loopw [9,27] (fun s9 s27 wr=>∃ (k N:Nat) (s:Grain.Sm),k≤n∧s9=.int .i64 N∧s27=.int .i64 k∧N≤500*k∧SumAt wr B s∧Below w2.heap.size w2 wr∧Hid (s=Grain.rdS x.s (l.take k))∧Hid (N=Grain.rdN x.s (l.take k))) (fun _ s27 _=>n-(intOf s27).toNat)
   case atStart=>exact ⟨0,0,Grain.zero,Nat.zero_le _,rfl,rfl,by omega,A0,belU,rfl,rfl⟩
   case round =>
    obtain ⟨k,N,s,hk,rfl,rfl,hNk,A1,belr,H1,H2⟩:=hrel
    have S3:=below_block belr S2
    have hsz:=belr.size
    by_cases hlt:k<n
    ·have hkl:k<l.length:=by rw [← HN.out];exact hlt
     obtain ⟨bb,off,rfl,hbl,hcell⟩:=seg_part hs2 hkl
     obtain ⟨P,hP⟩:∃ P,P=Grain.pt l k:=⟨_,rfl⟩
     have q:=(hcell k hkl).below belr hbl
     rw [← hP] at q
     obtain ⟨c0,c1,c2⟩:=q
     have hpft:P.f≤P.t:=by
      have:=HO.out k hkl
      unfold Grain.okp at this
      simp only [Bool.and_eq_true] at this
      have:=Grain.may_lt this.1
      rw [hP];omega
     have T1:Hid (Grain.rdS x.s (l.take (k+1))=Grain.join s (Grain.psum x.s P)):=by
      show _=_
      rw [Grain.take_pt hkl,Grain.rdS_snoc,← hP,← H1.out]
     have T2:Hid (Grain.rdN x.s (l.take (k+1))=N+Grain.pcost x.s P):=by
      show _=_
      rw [Grain.take_pt hkl,Grain.rdN_snoc,← hP,← H2.out]
     have hpc:=Grain.pcost_le sr.rlen sr.flen sr.clen P
     obtain ⟨W,hW⟩:∃ W,W=wr.alloc (.cells #[.int .i64 P.k,.int .i64 P.f,.int .i64 P.t] 235):=⟨_,rfl⟩
     have hbW:Below wr.heap.size wr W:=by rw [hW];exact (Below.refl _ _).alloc (Nat.le_refl _) _
     have belW:Below w2.heap.size w2 W:=below_pl hbW belr
     have A2:=A1.below hbW
     have HW:=hide hW
     obtain ⟨x0,x1,x2,x3,x4,x5,x6,x7,x8⟩:=nine_cells S3
     have Xl:X<wr.heap.size:=lt_of_block S3
     have Bl:B<wr.heap.size:=lt_of_block A1
     have hxW:=hx2.below belW
     clear hW hP hcell hkl H1 H2
     go_wp2_with fail
     rw [← HW.out]
     refine (rpart_any x P W hxW hcap sr.rlen sr.flen sr.clen sr.rpw sr.fpw sr.cpw hpft).mono ?_
     rintro e w3 ⟨J,m,rfl,HJ,HM,hb3⟩
     have bel3:Below w2.heap.size w2 w3:=below_pl hb3 belW
     have A3:=A2.below hb3
     obtain ⟨W4,hW4⟩:∃ W4,W4=w3.alloc (.cells #[.int .i64 J.c,.int .i64 J.t,.int .i64 J.mn,.int .i64 J.mx,.int .i64 J.f,.int .i64 J.l,.int .i64 J.r] 76):=⟨_,rfl⟩
     have hb4:Below w3.heap.size w3 W4:=by rw [hW4];exact (Below.refl _ _).alloc (Nat.le_refl _) _
     have A4:=A3.below hb4
     have bel4:Below w2.heap.size w2 W4:=below_pl hb4 bel3
     have HW4:=hide hW4
     obtain ⟨a0,a1,a2,a3,a4,a5,a6⟩:=A3.cells
     have Bl3:B<w3.heap.size:=lt_of_block A3
     clear hW4 x0 x1 x2 x3 x4 x5 x6 x7 x8 c0 c1 c2 hb3 hbW belW A2 A1 belr Xl Bl hxW S3
     go_wp2_with fail
     rw [← HW4.out]
     refine (join_let s J W4).mono ?_
     rintro e w5 ⟨Q,HQ,rfl,hb5⟩
     have A5:=A4.below hb5
     have bel5:Below w2.heap.size w2 w5:=below_pl hb5 bel4
     obtain ⟨g0,g1,g2,g3,g4,g5,g6⟩:=A5.cells
     obtain ⟨y0,y1,y2,y3,y4,y5,y6⟩:=seven_thaw A5
     have hmm:m≤500:=by rw [HM.out];exact hpc
     have hw1:IntKind.i64.wrap ((N:Int)+(m:Int))=((N+m:Nat):Int):=by rw [IntKind.wrap_i64];omega
     have hw2:IntKind.i64.wrap (((N+m:Nat):Int))=((N+m:Nat):Int):=by rw [IntKind.wrap_i64];omega
     have T3:Hid (Q=Grain.rdS x.s (l.take (k+1))):=by show _=_;rw [T1.out,HQ.out,HJ.out]
     have T4:Hid (N+m=Grain.rdN x.s (l.take (k+1))):=by show _=_;rw [T2.out,HM.out]
     clear T1 T2 HJ HQ a0 a1 a2 a3 a4 a5 a6 A3 A4 bel3 bel4 hb4 hb5 HW4 HW
     go_wp2
     go_roundw
     case rel=>exact ⟨k+1,N+m,Q,by omega,by go_num,by go_num,by omega,A5.set Q,below_set7 bel5 (by have:=HBB.out;omega) _ _ _ _ _ _ _,T3,T4⟩
     case measure=>simp [intOf];omega
    ·obtain ⟨g0,g1,g2,g3,g4,g5,g6⟩:=A1.cells
     have Z3:=Z2.below belr
     obtain ⟨z0,z1,z2,z3,z4,z5,z6⟩:=Z3.cells
     obtain ⟨y0,y1,y2,y3,y4,y5,y6⟩:=seven_thaw Z3
     have ek:l.take k=l:=List.take_of_length_le (by have:=HN.out;omega)
     have HR2:Hid (Grain.read x.s l=(s,(N:Int),0)):=by
      show _=_
      rw [HR.out,H1.out,H2.out,ek]
     clear HR H1 H2 ek
     go_wp2
     exact bodyPost_ret (v:=.tuple #[.agg #[.int .i64 s.c,.int .i64 s.t,.int .i64 s.mn,.int .i64 s.mx,.int .i64 s.f,.int .i64 s.l,.int .i64 s.r],.int .i64 N,.int .i64 0]) (by simp [results,Tryz.results143,go_sem,z0,z1,z2,z3,z4,z5,z6]) rfl ⟨s,N,0,rfl,HR2,below_set7 (below_pl belr bel2) (by have:=HX.out;omega) _ _ _ _ _ _ _⟩
 ·have HR:Hid (Grain.read x.s l=(Grain.zero,0,E)):=by
   show _=_
   rw [Grain.read,← HE.out,if_pos hw]
  have hne:(E != 0)=true:=by simpa using hw
  obtain ⟨z0,z1,z2,z3,z4,z5,z6⟩:=Z1.cells
  obtain ⟨y0,y1,y2,y3,y4,y5,y6⟩:=seven_thaw Z1
  go_wp2
  exact bodyPost_ret (v:=.tuple #[.agg #[.int .i64 0,.int .i64 0,.int .i64 0,.int .i64 0,.int .i64 0,.int .i64 0,.int .i64 0],.int .i64 0,.int .i64 E]) (by simp [results,Tryz.results143,go_sem,z0,z1,z2,z3,z4,z5,z6]) rfl ⟨Grain.zero,0,E,rfl,HR,below_set7 bel1 (by have:=HX.out;omega) _ _ _ _ _ _ _⟩
open Go.RowKit Go.GrainU
set_option maxRecDepth 20000 in
set_option maxHeartbeats 4000000 in
theorem choose_any (x:ShT) (f t:Int) (r:List Grain.Pt×Int) (w:World) (hx:ShIn w x) (hr:r=Grain.choose x.s f t) :
  Calls Tryz.prog 142 #[x.v,.int .i64 f,.int .i64 t] w fun e w'=>∃ (co:Option Addr) (m d:Nat),e=.returned (.tuple #[.slice co m d,.int .i64 r.2])∧w'.ownsRow w.heap.size 235 3 (.slice co m d) m (pcells r.1)∧m≤1000000∧Below w.heap.size w w':=by
 have HR:=hide hr
 clear hr
 obtain ⟨X,hX⟩:∃ X,X=w.heap.size:=⟨_,rfl⟩
 obtain ⟨V,hV⟩:∃ V,V=w.alloc (so x):=⟨_,rfl⟩
 have bel:Below w.heap.size w V:=by rw [hV];exact (Below.refl _ _).alloc (Nat.le_refl _) _
 have S0:V.heap[X]?=some (so x):=by rw [hV,hX];exact heap_alloc_new w _
 have hxV:=hx.below bel
 have HV:Hid (V=w.alloc (.cells #[.slice x.a0 x.s.se.length x.c0,.slice x.a1 x.s.ra.length x.c1,.slice x.a2 x.s.fi.length x.c2,.slice x.a3 x.s.co.length x.c3,.int .i64 x.s.rf,.int .i64 x.s.ff,.int .i64 x.s.ft,.int .i64 x.s.cf,.int .i64 x.s.ct] 59)):=hV
 have HX:=hide hX
 have Hv:Hid (x.v=.agg #[.slice x.a0 x.s.se.length x.c0,.slice x.a1 x.s.ra.length x.c1,.slice x.a2 x.s.fi.length x.c2,.slice x.a3 x.s.co.length x.c3,.int .i64 x.s.rf,.int .i64 x.s.ff,.int .i64 x.s.ft,.int .i64 x.s.cf,.int .i64 x.s.ct]):=rfl
 obtain ⟨E,hE⟩:∃ E,E=Grain.swrong x.s:=⟨_,rfl⟩
 have HE:=hide hE
 have hXV:X<V.heap.size:=lt_of_block S0
 clear hV hX hE hx
 rw [Hv.out]
 go_enter Tryz.func142,Tryz.ntmps142
 go_wp2_with fail
 rw [← HV.out,← Hv.out]
 refine (swrong_any x V hxV).mono ?_
 rintro e w1 ⟨rfl,hb1⟩
 rw [← HE.out]
 have bel1:Below w.heap.size w w1:=below_pl hb1 bel
 have S1:=below_block hb1 S0
 by_cases hw:E=0
 ·subst hw
  by_cases h1:f<0
  ·have e:r=([],3):=by rw [HR.out,Grain.choose,if_neg (by simp [← HE.out]),if_pos (.inl h1)]
   subst e
   go_wp2
   exact bodyPost_ret (v:=.tuple #[.slice none 0 0,.int .i64 3]) (by simp [results,Tryz.results142,go_sem]) rfl ⟨none,0,0,rfl,World.ownsRow_nil _ _ _ _,by omega,bel1⟩
  ·by_cases h2:t<f
   ·have e:r=([],3):=by rw [HR.out,Grain.choose,if_neg (by simp [← HE.out]),if_pos (.inr (.inl h2))]
    subst e
    go_wp2
    exact bodyPost_ret (v:=.tuple #[.slice none 0 0,.int .i64 3]) (by simp [results,Tryz.results142,go_sem]) rfl ⟨none,0,0,rfl,World.ownsRow_nil _ _ _ _,by omega,bel1⟩
   ·by_cases h3:1000000<t
    ·have e:r=([],3):=by rw [HR.out,Grain.choose,if_neg (by simp [← HE.out]),if_pos (.inr (.inr h3))]
     subst e
     go_wp2
     exact bodyPost_ret (v:=.tuple #[.slice none 0 0,.int .i64 3]) (by simp [results,Tryz.results142,go_sem]) rfl ⟨none,0,0,rfl,World.ownsRow_nil _ _ _ _,by omega,bel1⟩
    ·have HC:Hid (r=Grain.chr x.s t (t-f).toNat f []):=by
      show _=_
      rw [HR.out,Grain.choose,if_neg (by simp [← HE.out]),if_neg (by omega),Grain.choose_runs HE.out.symm (by omega) (by omega) _ (Nat.le_refl _)]
     have HSR:=hide ((Grain.sr_iff x.s).1 HE.out.symm)
     obtain ⟨i0,hi,hz0,hz1,hz2⟩:=info_parts Tryz.infoPart
     have f0:0≤f:=by omega
     have ft:f≤t:=by omega
     have t1:t≤1000000:=by omega
     clear h1 h2 h3 HR
     go_wp2
     rw [← HX.out]
     go_loopw [9,10] (fun s9 s10 wr=>∃ (co:Option Addr) (m d fuel:Nat) (a:Int) (out:List Grain.Pt),s9=.slice co m d∧s10=.int .i64 a∧wr.ownsRow w1.heap.size 235 3 (.slice co m d) m (pcells out)∧Below w1.heap.size w1 wr∧Hid (r=Grain.chr x.s t fuel a out)∧(t-a).toNat≤fuel∧0≤a∧a≤t∧m+fuel≤1000000) (fun _ s10 _=>(t-intOf s10).toNat)
     case atStart=>exact ⟨none,0,0,(t-f).toNat,f,[],rfl,rfl,World.ownsRow_nil _ _ _ _,Below.refl _ _,HC,Nat.le_refl _,f0,ft,by omega⟩
     case round =>
      obtain ⟨co,m,d,fuel,a,out,rfl,rfl,own,belr,HC2,hfu,ha0,hat,hmf⟩:=hrel
      have S2:=below_block belr S1
      have hsz:=belr.size
      by_cases hlt:a<t
      ·obtain ⟨fu,rfl⟩:∃ k,fuel=k+1:=⟨fuel-1,by omega⟩
       obtain ⟨p,hp⟩:∃ p,p=Grain.nxr x.s a t:=⟨_,rfl⟩
       have hpf:p.f=a:=by rw [hp];exact (Grain.nxr_ft HSR.out hlt).1
       have hpt:p.t≤t:=by rw [hp];exact (Grain.nxr_ft HSR.out hlt).2.1
       obtain ⟨b,hb⟩:∃ b,b=Grain.may x.s p:=⟨_,rfl⟩
       have HC3:Hid (r=if b=true then Grain.chr x.s t fu p.t (out++[p]) else ([],10)):=by
        show _=_
        rw [HC2.out,Grain.chr,if_pos hlt,hb,hp]
       have HP:=hide hp
       have HB:=hide hb
       have HPF:=hide hpf
       obtain ⟨x0,x1,x2,x3,x4,x5,x6,x7,x8⟩:=nine_cells S2
       have Xl:X<wr.heap.size:=lt_of_block S2
       clear hp hb HC2 hpf
       go_wp2_with fail
       refine (next_any x.s _ _ _ _ a t p wr HSR.out ha0 hlt t1 HP.out).mono ?_
       rintro e w2 ⟨rfl,hb2⟩
       obtain ⟨W,hW⟩:∃ W,W=w2.alloc (.cells #[.int .i64 p.k,.int .i64 p.f,.int .i64 p.t] 235):=⟨_,rfl⟩
       have hbW:Below w2.heap.size w2 W:=by rw [hW];exact (Below.refl _ _).alloc (Nat.le_refl _) _
       have P0:W.heap[w2.heap.size]?=some (.cells #[.int .i64 p.k,.int .i64 p.f,.int .i64 p.t] 235 (0,0)):=by rw [hW];exact heap_alloc_new w2 _
       have S3:=below_block hb2 S2
       have S4:=below_block hbW S3
       have hlow:∀ g,(Value.slice co m d).ownBlock=some g→g<w2.heap.size:=fun g hg=>Nat.lt_of_lt_of_le (own.lt g hg).2 hb2.size
       have HLow:=hide hlow
       have own4:=own_below (own_below own hb2) hbW
       have bel4:Below w1.heap.size w1 W:=below_pl hbW (below_pl hb2 belr)
       have HW:=hide hW
       clear hW x0 x1 x2 x3 x4 x5 x6 x7 x8 own belr
       obtain ⟨x0,x1,x2,x3,x4,x5,x6,x7,x8⟩:=nine_cells S3
       have Xl2:X<w2.heap.size:=lt_of_block S3
       clear hb2 hbW
       go_wp2_with fail
       rw [← HW.out]
       refine (may_any x.s _ _ _ _ p b W HB.out).mono ?_
       rintro e w3 ⟨rfl,hb3⟩
       have own5:=own_below own4 hb3
       have bel5:Below w1.heap.size w1 w3:=below_pl hb3 bel4
       have P1:=below_block hb3 P0
       obtain ⟨y0,y1,y2⟩:=three3 P1
       clear x0 x1 x2 x3 x4 x5 x6 x7 x8 hb3 own4 bel4 HW
       cases b
       ·have e:r=([],10):=by rw [HC3.out];rfl
        subst e
        clear HC3
        go_wp2
        exact bodyPost_ret (v:=.tuple #[.slice none 0 0,.int .i64 10]) (by simp [results,Tryz.results142,go_sem]) rfl ⟨none,0,0,rfl,World.ownsRow_nil _ _ _ _,by omega,below_pl bel5 bel1⟩
       ·have hlt2:a<p.t:=by have:=Grain.may_lt HB.out.symm;rw [HPF.out] at this;exact this
        have HC4:Hid (r=Grain.chr x.s t fu p.t (out++[p])):=by show _=_;rw [HC3.out];rfl
        have hsz5:=bel5.size
        have hown:=own5.lt
        clear HC3
        have own5a:=own5.alloc (.cells #[.int .i64 p.k,.int .i64 p.f,.int .i64 p.t] 235)
        go_wp2_with (at_builtin;refine wpList_append_lies _ rfl _ _ 197 rfl w1.heap.size 235 i0 (.agg #[.int .i64 0,.int .i64 0,.int .i64 0]) 3 24 Tryz.underlying197 hi hz0 hz1 hz2 rfl (by decide) _ _ _ rfl own5a ⟨w3.heap.size,0,none⟩ 1 1 (ptc p) rfl rfl (World.news_of_block (cs:=#[.int .i64 p.k,.int .i64 p.f,.int .i64 p.t]) (t:=235) (fr:=(0,0)) (heap_alloc_new w3 _)) (by simp [ptc,Value.oneCell']) (by decide) (by unfold maxLen;omega) (by omega) (by simp;omega) (w3.heap.size+1) (by simp) ?_)
        intro g d' w4 own6' gr6 hat6 hlt6
        have own6:w4.ownsRow w1.heap.size 235 3 (.slice (some ⟨g,0,none⟩) (m+1) d') (m+1) (pcells (out++[p])):=by rw [pcells_snoc];exact own6'
        have bel6:Below w1.heap.size w1 w4:=(bel5.alloc hsz5 _).grown gr6 (by simp;omega) (fun j hj=>(hown j hj).1)
        have P2:w4.heap[w2.heap.size]?=some (.cells #[.int .i64 p.k,.int .i64 p.f,.int .i64 p.t] 235 (0,0)):=by
         have hlP:=lt_of_block P1
         rw [gr6.block _ (by simp;omega) (fun hh=>?_),Below.heap_alloc _ _ _ hlP]
         ·exact P1
         ·have:=HLow.out _ hh.symm;omega
        obtain ⟨z0,z1,z2⟩:=three3 P2
        clear y0 y1 y2 P2 P1 P0 gr6 own5 own5a own6' hat6 hlt6 bel5 hown HLow hlow
        go_wp2
        go_roundw
        case rel=>exact ⟨_,m+1,d',fu,p.t,_,rfl,rfl,own6,bel6,HC4,by omega,by omega,hpt,by omega⟩
        case measure=>simp [intOf];omega
      ·have e:r=(out,0):=by rw [HC2.out,Grain.chr_end hlt]
       subst e
       clear HC2
       go_wp2
       exact bodyPost_ret (v:=.tuple #[.slice co m d,.int .i64 0]) (by simp [results,Tryz.results142,go_sem]) rfl ⟨co,m,d,rfl,own_down own bel1.size,by omega,below_pl belr bel1⟩
 ·have e:r=([],E):=by rw [HR.out,Grain.choose,← HE.out,if_pos hw]
  subst e
  have hne:(E != 0)=true:=by simpa using hw
  go_wp2
  exact bodyPost_ret (v:=.tuple #[.slice none 0 0,.int .i64 E]) (by simp [results,Tryz.results142,go_sem]) rfl ⟨none,0,0,rfl,World.ownsRow_nil _ _ _ _,by omega,bel1⟩
end Go.Proofs.YtoldmigappbjcaaGreatDoor
