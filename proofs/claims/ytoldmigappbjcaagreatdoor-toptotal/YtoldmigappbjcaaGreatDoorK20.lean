import Derived.Deep.CutRange
import Derived.Deep.RegionHeld3
import Derived.Test.YtoldmigappbjcaaGreatDoorK19
namespace Go.Proofs.YtoldmigappbjcaaGreatDoor
open Go.RowKit Go.GrainU
set_option maxHeartbeats 1000000 in
theorem efit_any (x:ShT) (w:World) (hx:ShIn w x) :
  Calls Tryz.prog 48 #[x.v] w fun e w'=>e=.returned (.bool (Grain.efit x.s))∧Below w.heap.size w w':=by
 obtain ⟨V,hV⟩:∃ V,V=w.alloc (so x):=⟨_,rfl⟩
 have bel:Below w.heap.size w V:=by rw [hV];exact (Below.refl _ _).alloc (Nat.le_refl _) _
 have hVs:V.heap.size=w.heap.size+1:=by rw [hV];simp
 have hB:V.heap[w.heap.size]?=some (so x):=by rw [hV];exact heap_alloc_new w _
 have hxV:=hx.below bel
 obtain ⟨g0,g1,g2,g3,fits,n0,n1,n2,n3,z0,z1,z2,z3⟩:=hxV
 have hE:=hide (enters (P:=Tryz.prog) Tryz.func79 (by kernel_rfl) (by kernel_rfl))
 have hF:∀ W t v,Below V.heap.size V W→Calls Tryz.prog 79 (#[.agg #[.int .i64 t,.int .i64 v]]++#[.pointer (some ⟨w.heap.size,0,none⟩)]) W fun e W'=>e=.returned (.bool (decide (t<x.s.rf)))∧Below W.heap.size W W':=by
  intro W t v hb
  have:=ef1_any t v x.s.rf w.heap.size W (nine_cells (below_block hb hB)).2.2.2.2.1
  simpa using this
 have HF:=hide hF
 have HE1:Hid (Grain.efit x.s=((!x.s.ra.any fun y=>decide (y.1<x.s.rf)) && (Grain.within x.s.fi x.s.ff x.s.ft && Grain.within x.s.co x.s.cf x.s.ct))):=by
  show _=_
  rw [raw_any];rfl
 have HN1:=hide (rfl:x.s.ra.length=x.s.ra.length)
 have hc1:x.s.ra.length≤9223372036854775807:=by omega
 have hc2:x.s.fi.length≤9223372036854775807:=by omega
 have hc3:x.s.co.length≤9223372036854775807:=by omega
 obtain ⟨⟨se,ra,fi,co,rf,ff,ft,cf,ct⟩,a0,c0,a1,c1,a2,c2,a3,c3⟩:=x
 simp only at *
 obtain ⟨m0,e0⟩:∃ m,m=se.length:=⟨_,rfl⟩
 obtain ⟨m1,e1⟩:∃ m,m=ra.length:=⟨_,rfl⟩
 obtain ⟨m2,e2⟩:∃ m,m=fi.length:=⟨_,rfl⟩
 obtain ⟨m3,e3⟩:∃ m,m=co.length:=⟨_,rfl⟩
 have HV:Hid (V=w.alloc (.cells #[.slice a0 m0 c0,.slice a1 m1 c1,.slice a2 m2 c2,.slice a3 m3 c3,.int .i64 rf,.int .i64 ff,.int .i64 ft,.int .i64 cf,.int .i64 ct] 59)):=by rw [e0,e1,e2,e3];exact hV
 simp only [ShT.v,← e0,← e1,← e2,← e3]
 have H1:=hide e1
 have H2:=hide e2
 have H3:=hide e3
 rw [← e1] at hc1
 rw [← e2] at hc2
 rw [← e3] at hc3
 clear e0 e1 e2 e3 hV hF HN1 n0 n1 n2 n3 z0 z1 z2 z3 fits
 go_enter Tryz.func48,Tryz.ntmps48
 go_wp2_with fail
 rw [← HV.out]
 refine (scont_any ra (fun t _=>decide (t<rf)) 79 _ a1 m1 c1 V g1 H1.out hc1 hE HF.out).mono ?_
 rintro e w1 ⟨rfl,hb1⟩
 have bel1:Below w.heap.size w w1:=bel.trans (hb1.mono bel.size)
 obtain ⟨r0,r1,r2,r3,r4,r5,r6,r7,r8⟩:=nine_cells (below_block hb1 hB)
 have B1:=below_block hb1 hB
 have g2':=g2.below hb1
 have g3':=g3.below hb1
 rw [← H2.out] at r2
 rw [← H3.out] at r3
 generalize (ra.any fun x=>decide (x.1<rf))=A at HE1 ⊢
 clear HF hE HV g0 g1 g2 g3
 cases A
 ·go_wp2_with fail
  refine (aw_any fi ff ft a2 m2 c2 w1 g2' H2.out hc2).mono ?_
  rintro e w2 ⟨rfl,hb2⟩
  have bel2:Below w.heap.size w w2:=bel1.trans (hb2.mono bel1.size)
  obtain ⟨s0,s1,s2,s3,s4,s5,s6,s7,s8⟩:=nine_cells (below_block hb2 B1)
  rw [← H3.out] at s3
  have g3'':=g3'.below hb2
  clear r0 r1 r2 r3 r4 r5 r6 r7 r8
  cases hw:Grain.within fi ff ft
  ·have HW:=hide hw
   clear hw
   go_wp2
   go_ret
   exact ⟨by rw [HE1.out,HW.out];rfl,bel2⟩
  ·have HW:=hide hw
   clear hw
   go_wp2_with fail
   refine (aw_any co cf ct a3 m3 c3 w2 g3'' H3.out hc3).mono ?_
   rintro e w3 ⟨rfl,hb3⟩
   have bel3:Below w.heap.size w w3:=bel2.trans (hb3.mono bel2.size)
   clear s0 s1 s2 s3 s4 s5 s6 s7 s8
   go_wp2
   go_ret
   exact ⟨by rw [HE1.out,HW.out];rfl,bel3⟩
 ·go_wp2
  go_ret
  exact ⟨by rw [HE1.out];rfl,bel1⟩
theorem ne_beq {a:Int} (h:a≠0):(a == 0)=false:=by simpa using h
set_option maxHeartbeats 2000000 in
theorem swrong_any (x:ShT) (w:World) (hx:ShIn w x) :
  Calls Tryz.prog 19 #[x.v] w fun e w'=>e=.returned (.int .i64 (Grain.swrong x.s))∧Below w.heap.size w w':=by
 obtain ⟨V,hV⟩:∃ V,V=w.alloc (so x):=⟨_,rfl⟩
 have bel:Below w.heap.size w V:=by rw [hV];exact (Below.refl _ _).alloc (Nat.le_refl _) _
 have hB:V.heap[w.heap.size]?=some (so x):=by rw [hV];exact heap_alloc_new w _
 have hxV:=hx.below bel
 obtain ⟨X,hX⟩:∃ X,X=w.heap.size:=⟨_,rfl⟩
 rw [← hX] at hB
 have HX:=hide hX
 clear hX
 have HW:Hid (Grain.swrong x.s=if wrongS x.s.se≠0 then wrongS x.s.se else if (Grain.wrong x.s.ra).1≠0 then (Grain.wrong x.s.ra).1 else if (Grain.wrongB x.s.fi 10).1≠0 then (Grain.wrongB x.s.fi 10).1 else if (Grain.wrongB x.s.co 60).1≠0 then (Grain.wrongB x.s.co 60).1 else if (Grain.bfit x.s && Grain.efit x.s)=true then 0 else 8):=rfl
 obtain ⟨y,hy⟩:∃ y,y=x:=⟨_,rfl⟩
 obtain ⟨⟨se,ra,fi,co,rf,ff,ft,cf,ct⟩,a0,c0,a1,c1,a2,c2,a3,c3⟩:=x
 obtain ⟨m0,e0⟩:∃ m,m=se.length:=⟨_,rfl⟩
 obtain ⟨m1,e1⟩:∃ m,m=ra.length:=⟨_,rfl⟩
 obtain ⟨m2,e2⟩:∃ m,m=fi.length:=⟨_,rfl⟩
 obtain ⟨m3,e3⟩:∃ m,m=co.length:=⟨_,rfl⟩
 have HV:Hid (V=w.alloc (.cells #[.slice a0 m0 c0,.slice a1 m1 c1,.slice a2 m2 c2,.slice a3 m3 c3,.int .i64 rf,.int .i64 ff,.int .i64 ft,.int .i64 cf,.int .i64 ct] 59)):=by rw [e0,e1,e2,e3];exact hV
 have HY:Hid (∀ W:World,W.heap[X]?=some (so y)→W.cell? ⟨X,0,none⟩=some (.slice a0 m0 c0)∧W.cell? ⟨X,1,none⟩=some (.slice a1 m1 c1)∧W.cell? ⟨X,2,none⟩=some (.slice a2 m2 c2)∧W.cell? ⟨X,3,none⟩=some (.slice a3 m3 c3) ∧
   W.cell? ⟨X,4,none⟩=some (.int .i64 rf)∧W.cell? ⟨X,5,none⟩=some (.int .i64 ff)∧W.cell? ⟨X,6,none⟩=some (.int .i64 ft)∧W.cell? ⟨X,7,none⟩=some (.int .i64 cf)∧W.cell? ⟨X,8,none⟩=some (.int .i64 ct)):=by
  intro W h
  rw [e0,e1,e2,e3]
  rw [hy] at h
  exact nine_cells h
 have Hv:Hid (y.v=.agg #[.slice a0 m0 c0,.slice a1 m1 c1,.slice a2 m2 c2,.slice a3 m3 c3,.int .i64 rf,.int .i64 ff,.int .i64 ft,.int .i64 cf,.int .i64 ct]):=by
  show _=_
  rw [hy,e0,e1,e2,e3];rfl
 rw [← hy] at hB hxV HW
 have HYs:Hid (y.s.se=se∧y.s.ra=ra∧y.s.fi=fi∧y.s.co=co∧y.a0=a0∧y.a1=a1∧y.a2=a2∧y.a3=a3):=by rw [hy];exact ⟨rfl,rfl,rfl,rfl,rfl,rfl,rfl,rfl⟩
 rw [HYs.out.1,HYs.out.2.1,HYs.out.2.2.1,HYs.out.2.2.2.1] at HW
 have hg0:Seg V a0 (lcells se):=by have:=hxV.g0;rwa [HYs.out.1,HYs.out.2.2.2.2.1] at this
 have hg1:Seg V a1 (scells ra):=by have:=hxV.g1;rwa [HYs.out.2.1,HYs.out.2.2.2.2.2.1] at this
 have hg2:Seg V a2 (kcells fi):=by have:=hxV.g2;rwa [HYs.out.2.2.1,HYs.out.2.2.2.2.2.2.1] at this
 have hg3:Seg V a3 (kcells co):=by have:=hxV.g3;rwa [HYs.out.2.2.2.1,HYs.out.2.2.2.2.2.2.2] at this
 have hfits:Fits se:=by have:=hxV.fits;rwa [HYs.out.1] at this
 rw [← hy,Hv.out]
 have H0:=hide e0
 have H1:=hide e1
 have H2:=hide e2
 have H3:=hide e3
 clear e0 e1 e2 e3 hV hy hx
 go_enter Tryz.func19,Tryz.ntmps19
 go_wp2_with fail
 rw [← HV.out]
 refine (nwrong_any se a0 m0 c0 V hg0 H0.out hfits).mono ?_
 rintro e w1 ⟨rfl,hb1⟩
 have bel1:Below w.heap.size w w1:=bel.trans (hb1.mono bel.size)
 have B1:=below_block hb1 hB
 obtain ⟨r0,r1,r2,r3,r4,r5,r6,r7,r8⟩:=HY.out w1 B1
 have hg1a:=hg1.below hb1
 have hg2a:=hg2.below hb1
 have hg3a:=hg3.below hb1
 have hx1:=hxV.below hb1
 rw [← HX.out]
 clear HV hg0 hg1 hg2 hg3 hxV hb1 hB bel
 by_cases z1:wrongS se=0
 ·rw [z1] at HW ⊢
  clear z1
  go_wp2_with fail
  refine (wrong_len ra a1 m1 c1 w1 hg1a H1.out).mono ?_
  rintro e w2 ⟨rfl,hb2⟩
  have bel2:Below w.heap.size w w2:=bel1.trans (hb2.mono bel1.size)
  have B2:=below_block hb2 B1
  have hg2b:=hg2a.below hb2
  have hg3b:=hg3a.below hb2
  have hx2:=hx1.below hb2
  obtain ⟨F2,f2⟩:∃ z,z=(Grain.wrong ra).2:=⟨_,rfl⟩
  obtain ⟨F1,f1⟩:∃ z,z=(Grain.wrong ra).1:=⟨_,rfl⟩
  rw [← f1] at HW
  rw [← f1,← f2]
  obtain ⟨W2,hW2⟩:∃ W,W=w2.alloc (.cells #[.int .i64 F1,.int .i64 F2] 43):=⟨_,rfl⟩
  have hbW:Below w2.heap.size w2 W2:=by rw [hW2];exact (Below.refl _ _).alloc (Nat.le_refl _) _
  have bel3:Below w.heap.size w W2:=bel2.trans (hbW.mono bel2.size)
  have B3:=below_block hbW B2
  have hg2c:=hg2b.below hbW
  have hg3c:=hg3b.below hbW
  have hx3:=hx2.below hbW
  obtain ⟨q0,q1,q2,q3,q4,q5,q6,q7,q8⟩:=HY.out W2 B3
  have p0:W2.cell? ⟨w2.heap.size,0,none⟩=some (.int .i64 F1):=by rw [hW2];simp
  have HW2:=hide hW2
  clear f1 f2 hb2 r0 r1 r2 r3 r4 r5 r6 r7 r8 hg1a hg2a hg3a hg2b hg3b hW2 hbW B1 B2 hx1 hx2 bel1
  go_upto_region 5 with fail
  rw [← HW2.out]
  by_cases z2:F1=0
  ·rw [z2] at HW p0
   clear z2
   go_wp2_with fail
   refine (kwrong_any fi a2 m2 c2 1 W2 hg2c H2.out).mono ?_
   rintro e w3 ⟨rfl,hb3⟩
   have es:stepOf 1=10:=rfl
   rw [es]
   clear es
   have bel4:Below w.heap.size w w3:=bel3.trans (hb3.mono bel3.size)
   have B4:=below_block hb3 B3
   have hg3d:=hg3c.below hb3
   have hx4:=hx3.below hb3
   obtain ⟨G2,k2⟩:∃ z,z=(Grain.wrongB fi 10).2:=⟨_,rfl⟩
   obtain ⟨G1,k1⟩:∃ z,z=(Grain.wrongB fi 10).1:=⟨_,rfl⟩
   rw [← k1] at HW
   rw [← k1,← k2]
   obtain ⟨W3,hW3⟩:∃ W,W=w3.alloc (.cells #[.int .i64 G1,.int .i64 G2] 43):=⟨_,rfl⟩
   have hbW3:Below w3.heap.size w3 W3:=by rw [hW3];exact (Below.refl _ _).alloc (Nat.le_refl _) _
   have bel5:Below w.heap.size w W3:=bel4.trans (hbW3.mono bel4.size)
   have B5:=below_block hbW3 B4
   have hg3e:=hg3d.below hbW3
   have hx5:=hx4.below hbW3
   obtain ⟨s0,s1,s2,s3,s4,s5,s6,s7,s8⟩:=HY.out W3 B5
   have p3:W3.cell? ⟨w3.heap.size,0,none⟩=some (.int .i64 G1):=by rw [hW3];simp
   have HW3:=hide hW3
   clear k1 k2 hb3 q0 q1 q2 q3 q4 q5 q6 q7 q8 hg2c hg3c hg3d hW3 hbW3 B3 B4 hx3 hx4 bel3 bel4 p0 HW2
   go_upto_region 8 with fail
   rw [← HW3.out]
   by_cases z3:G1=0
   ·rw [z3] at HW p3
    clear z3
    go_wp2_with fail
    refine (kwrong_any co a3 m3 c3 2 W3 hg3e H3.out).mono ?_
    rintro e w4 ⟨rfl,hb4⟩
    have es:stepOf 2=60:=rfl
    rw [es]
    clear es
    have bel6:Below w.heap.size w w4:=bel5.trans (hb4.mono bel5.size)
    have B6:=below_block hb4 B5
    have hx6:=hx5.below hb4
    obtain ⟨K2,k2⟩:∃ z,z=(Grain.wrongB co 60).2:=⟨_,rfl⟩
    obtain ⟨K1,k1⟩:∃ z,z=(Grain.wrongB co 60).1:=⟨_,rfl⟩
    rw [← k1] at HW
    rw [← k1,← k2]
    obtain ⟨W4,hW4⟩:∃ W,W=w4.alloc (.cells #[.int .i64 K1,.int .i64 K2] 43):=⟨_,rfl⟩
    have hbW4:Below w4.heap.size w4 W4:=by rw [hW4];exact (Below.refl _ _).alloc (Nat.le_refl _) _
    have bel7:Below w.heap.size w W4:=bel6.trans (hbW4.mono bel6.size)
    have B7:=below_block hbW4 B6
    have hx7:=hx6.below hbW4
    obtain ⟨t0,t1,t2,t3,t4,t5,t6,t7,t8⟩:=HY.out W4 B7
    have p4:W4.cell? ⟨w4.heap.size,0,none⟩=some (.int .i64 K1):=by rw [hW4];simp
    have HW4:=hide hW4
    clear k1 k2 hb4 s0 s1 s2 s3 s4 s5 s6 s7 s8 hg3e hW4 hbW4 B5 B6 hx5 hx6 bel5 bel6 p3 HW3
    go_upto_region 11 with fail
    rw [← HW4.out]
    by_cases z4:K1=0
    ·rw [z4] at HW p4
     clear z4
     have HW':Hid (Grain.swrong y.s=if (Grain.bfit y.s && Grain.efit y.s)=true then 0 else 8):=by
      show _=_
      rw [HW.out];simp
     clear HW
     go_wp2_with fail
     rw [← Hv.out]
     refine (bfit_any y W4).mono ?_
     rintro e w5 ⟨rfl,hb5⟩
     have bel8:Below w.heap.size w w5:=bel7.trans (hb5.mono bel7.size)
     have B8:=below_block hb5 B7
     have hx8:=hx7.below hb5
     obtain ⟨u0,u1,u2,u3,u4,u5,u6,u7,u8⟩:=HY.out w5 B8
     clear hb5 t0 t1 t2 t3 t4 t5 t6 t7 t8 B7 hx7 bel7 p4 HW4
     generalize Grain.bfit y.s=A at HW' ⊢
     cases A
     ·go_wp2
      go_ret
      exact ⟨by rw [HW'.out];rfl,bel8⟩
     ·go_wp2_with fail
      rw [← Hv.out]
      refine (efit_any y w5 hx8).mono ?_
      rintro e w6 ⟨rfl,hb6⟩
      have bel9:Below w.heap.size w w6:=bel8.trans (hb6.mono bel8.size)
      clear hb6 u0 u1 u2 u3 u4 u5 u6 u7 u8 B8 hx8 bel8
      generalize Grain.efit y.s=A at HW' ⊢
      cases A
      ·go_wp2
       go_ret
       exact ⟨by rw [HW'.out];rfl,bel9⟩
      ·go_wp2
       go_ret
       exact ⟨by rw [HW'.out];rfl,bel9⟩
    ·have n4:=ne_beq z4
     go_wp2
     go_ret
     exact ⟨by rw [HW.out,if_neg (by simp),if_neg (by simp),if_neg (by simp),if_pos z4];rfl,bel7⟩
   ·have n3:=ne_beq z3
    go_wp2
    go_ret
    exact ⟨by rw [HW.out,if_neg (by simp),if_neg (by simp),if_pos z3];rfl,bel5⟩
  ·have n2:=ne_beq z2
   go_wp2
   go_ret
   exact ⟨by rw [HW.out,if_neg (by simp),if_pos z2];rfl,bel3⟩
 ·have n1:=ne_beq z1
  have HW':Hid (Grain.swrong y.s=wrongS se):=by show _=_;rw [HW.out,if_pos z1]
  generalize wrongS se=E1 at HW' n1 ⊢
  clear HW z1
  go_wp2
  go_ret
  exact ⟨by rw [HW'.out];rfl,bel1⟩
end Go.Proofs.YtoldmigappbjcaaGreatDoor
namespace Go.GrainU
open Go.RowKit
theorem lcells_one' (l:List (ByteArray×ByteArray)):∀ u∈lcells l,u.oneCell'=true:=by
 induction l with
 | nil=>intro u hu;simp [lcells] at hu
 | cons b r ih =>
  intro u hu
  simp only [lcells,List.mem_cons] at hu
  rcases hu with e | e | e
  ·rw [e];rfl
  ·rw [e];rfl
  ·exact ih u e
theorem own_down {w:World} {base base' e size n:Nat} {v:Value} {xs:List Value} (h:w.ownsRow base e size v n xs) (hb:base'≤base):w.ownsRow base' e size v n xs:=by
 obtain ⟨h1,h2⟩:=h
 refine ⟨h1,?_⟩
 rcases h2 with h2 | ⟨g,cap,cur,hv,hg,r⟩
 ·exact Or.inl h2
 ·exact Or.inr ⟨g,cap,cur,hv,Nat.le_trans hb hg,r⟩
theorem own_nil {w:World} {base e size n c:Nat} {ao:Option Addr} {xs:List Value} (h:w.ownsRow base e size (.slice ao n c) n xs):ao=none→n=0∧c=0:=by
 intro hn
 subst hn
 rcases h.2 with ⟨h2,_⟩ | ⟨g,cap,cur,hv,_⟩
 ·simp at h2;exact h2
 ·simp at hv
theorem own_seg' {w:World} {base e size n c:Nat} {ao:Option Addr} {xs:List Value} (h:w.ownsRow base e size (.slice ao n c) n xs):Seg w ao xs:=by
 obtain ⟨ao',c',hv,hs,_⟩:=own_open h
 simp at hv
 obtain ⟨rfl,rfl⟩:=hv
 exact hs
end Go.GrainU
namespace Go.Proofs.YtoldmigappbjcaaGreatDoor
open Go.RowKit Go.GrainU
structure ShO (base:Nat) (w:World) (y:ShT):Prop where
 o0:w.ownsRow base 88 2 (.slice y.a0 y.s.se.length y.c0) y.s.se.length (lcells y.s.se)
 o1:w.ownsRow base 34 2 (.slice y.a1 y.s.ra.length y.c1) y.s.ra.length (scells y.s.ra)
 o2:w.ownsRow base 145 8 (.slice y.a2 y.s.fi.length y.c2) y.s.fi.length (kcells y.s.fi)
 o3:w.ownsRow base 145 8 (.slice y.a3 y.s.co.length y.c3) y.s.co.length (kcells y.s.co)
 ne:∀ g,(Value.slice y.a2 y.s.fi.length y.c2).ownBlock=some g→(Value.slice y.a3 y.s.co.length y.c3).ownBlock≠some g
 fits:Fits y.s.se
 n0:y.s.se.length*32≤140737488355328
 n1:y.s.ra.length*16≤140737488355328
 n2:y.s.fi.length*64≤140737488355328
 n3:y.s.co.length*64≤140737488355328
theorem ShO.shIn {base:Nat} {w:World} {y:ShT} (h:ShO base w y):ShIn w y :=
 ⟨own_seg' h.o0,own_seg' h.o1,own_seg' h.o2,own_seg' h.o3,h.fits,h.n0,h.n1,h.n2,h.n3,own_nil h.o0,own_nil h.o1,own_nil h.o2,own_nil h.o3⟩
set_option maxHeartbeats 400000 in
theorem wrongAt_any (x:ShT) (tt:Int) (w:World) (hx:ShIn w x) :
  Calls Tryz.prog 130 #[x.v,.int .i64 tt] w fun e w'=>e=.returned (.int .i64 (Grain.wrongAt x.s tt))∧Below w.heap.size w w':=by
 obtain ⟨V,hV⟩:∃ V,V=w.alloc (so x):=⟨_,rfl⟩
 have bel:Below w.heap.size w V:=by rw [hV];exact (Below.refl _ _).alloc (Nat.le_refl _) _
 have hxV:=hx.below bel
 have HW:Hid (Grain.wrongAt x.s tt=if Grain.swrong x.s≠0 then Grain.swrong x.s else if tt<0∨1000000<tt then 3 else 0):=rfl
 have HV:Hid (V=w.alloc (.cells #[.slice x.a0 x.s.se.length x.c0,.slice x.a1 x.s.ra.length x.c1,.slice x.a2 x.s.fi.length x.c2,.slice x.a3 x.s.co.length x.c3,.int .i64 x.s.rf,.int .i64 x.s.ff,.int .i64 x.s.ft,.int .i64 x.s.cf,.int .i64 x.s.ct] 59)):=hV
 have Hv:Hid (x.v=.agg #[.slice x.a0 x.s.se.length x.c0,.slice x.a1 x.s.ra.length x.c1,.slice x.a2 x.s.fi.length x.c2,.slice x.a3 x.s.co.length x.c3,.int .i64 x.s.rf,.int .i64 x.s.ff,.int .i64 x.s.ft,.int .i64 x.s.cf,.int .i64 x.s.ct]):=rfl
 rw [Hv.out]
 clear hV
 go_enter Tryz.func130,Tryz.ntmps130
 go_wp2_with fail
 rw [← HV.out,← Hv.out]
 refine (swrong_any x V hxV).mono ?_
 rintro e w1 ⟨rfl,hb1⟩
 have bel1:Below w.heap.size w w1:=bel.trans (hb1.mono bel.size)
 obtain ⟨E,hE⟩:∃ E,E=Grain.swrong x.s:=⟨_,rfl⟩
 rw [← hE] at HW ⊢
 clear hE HV hb1 hxV
 by_cases z:E=0
 ·subst z
  go_wp2
  all_goals
   go_ret
   exact ⟨by rw [HW.out,if_neg (by simp)];first | (rw [if_pos (by omega)];rfl) | (rw [if_neg (by omega)];rfl),bel1⟩
 ·have n:=ne_beq z
  go_wp2
  go_ret
  exact ⟨by rw [HW.out,if_pos z];rfl,bel1⟩
set_option maxHeartbeats 1000000 in
theorem late_any (x:ShT) (t:Int) (w:World) (hx:ShIn w x) :
  Calls Tryz.prog 172 #[x.v,.int .i64 t] w fun e w'=>e=.returned (.bool (Grain.late x.s t))∧Below w.heap.size w w':=by
 have HL:Hid (Grain.late x.s t=(decide (t<x.s.ft) || (match x.s.ra.getLast? with | some y=>decide (t≤y.1) | none=>false))):=rfl
 have bel:∀ o,Below w.heap.size w (w.alloc o):=fun o=>(Below.refl _ _).alloc (Nat.le_refl _) _
 have BE:=hide bel
 clear bel
 have hg:=hx.g1
 have hn1:=hx.n1
 clear hx
 simp only [ShT.v]
 generalize x.s.ft=ft at HL ⊢
 rcases Grain.snoc_or x.s.ra with e | ⟨r,y,e⟩
 ·rw [e] at HL
  have hl:x.s.ra.length=0:=by rw [e];rfl
  rw [hl]
  clear hl e hg hn1
  go_enter Tryz.func172,Tryz.ntmps172
  go_wp2
  all_goals
   go_ret
   refine ⟨?_,BE.out _⟩
   rw [HL.out]
   refine ret_bool ?_
   simp
   try omega
 ·rw [e] at HL hg hn1
  have hl:x.s.ra.length=r.length+1:=by rw [e];simp
  rw [hl]
  obtain ⟨b,off,ha,hcell⟩:=hg.sample (k:=r.length) (by simp)
  have hc:=(hcell r.length (by simp)).1
  have et:Grain.tm (r++[y]) r.length=y.1:=by simp [Grain.tm]
  rw [et] at hc
  have hb:b<w.heap.size:=World.block_lt_of_cell? w _ hc
  generalize x.a1=a1 at ha ⊢
  subst ha
  have HL':Hid (Grain.late x.s t=(decide (t<ft) || decide (t≤y.1))):=by show _=_;rw [HL.out];simp
  generalize y.1=Y at hc HL'
  simp at hn1
  obtain ⟨m,hm⟩:∃ m,m=r.length:=⟨_,rfl⟩
  rw [← hm] at hc hn1 ⊢
  have hw:IntKind.i64.wrap (m:Int)=m:=by rw [IntKind.wrap_i64];omega
  have hmm:(m:Int)<(m:Int)+1:=by omega
  clear hl e hg hcell et HL hm
  go_enter Tryz.func172,Tryz.ntmps172
  go_wp2
  all_goals
   go_ret
   refine ⟨?_,BE.out _⟩
   rw [HL'.out]
   refine ret_bool ?_
   (rw [Bool.eq_iff_iff]) <;> simp <;> try omega
theorem Tryz.infoLab:(Tryz.prog.info? 88).map (fun i=>(i.zero,i.size,i.bytes))=some (some (.agg #[.string ⟨#[]⟩,.string ⟨#[]⟩]),2,32):=by kernel_rfl
set_option maxHeartbeats 1000000 in
theorem lcopy_any (l:List (ByteArray×ByteArray)) (ao:Option Addr) (n c:Nat) (w:World) (hs:Seg w ao (lcells l)) (hn:n=l.length) (hL:n*32≤140737488355328) (hnil:ao=none→n=0∧c=0) :
  Calls Tryz.prog 173 #[.slice ao n c] w fun e w'=>∃ co N d,e=.returned (.slice co N d)∧w'.ownsRow w.heap.size 88 2 (.slice co N d) N (lcells l)∧Below w.heap.size w w':=by
 obtain ⟨i0,hi,hz0,hz1,hz2⟩:=sinfo_parts Tryz.infoLab
 have HN:=hide hn
 have HL:=hide hL
 have HZ:=hide hnil
 clear hn hL hnil
 go_enter Tryz.func173,Tryz.ntmps173
 go_wp2_with (at_builtin;refine append_seg rfl _ _ 31 rfl w.heap.size 88 i0 (.agg #[.string ⟨#[]⟩,.string ⟨#[]⟩]) 2 32 Tryz.underlying31 hi hz0 hz1 hz2 rfl (by decide) _ 0 [] rfl (World.ownsRow_nil _ _ _ _) ao n c (lcells l) rfl HZ.out hs ?qc1 (lcells_one' l) ?qc4 ?qc5 (Nat.le_refl _) ?_)
 case qc1=>rw [lcells_length,HN.out]
 case qc4=>have:=HL.out;unfold maxLen;omega
 case qc5=>have:=HL.out;omega
 intro v' w1 own gr
 obtain ⟨ao',c',rfl,_,_⟩:=own_open own
 have bel1:Below w.heap.size w w1:=(Below.refl _ _).grown gr (Nat.le_refl _) (fun j hj=>by simp [Value.ownBlock] at hj)
 have own2:w1.ownsRow w.heap.size 88 2 (.slice ao' (0+n) c') (0+n) (lcells l):=by simpa using own
 clear own gr
 go_wp2
 go_ret
 exact ⟨ao',n,c',rfl,by simpa using own2,bel1⟩
end Go.Proofs.YtoldmigappbjcaaGreatDoor
namespace Go.GrainU
open Go.RowKit
theorem set_block {w:World} {B i:Nat} {cs:Array Value} {t:TypeId} (h:w.heap[B]?=some (.cells cs t (0,0))) (u:Value):(w.setCell ⟨B,i,none⟩ u).heap[B]?=some (.cells (cs.setIfInBounds i u) t (0,0)):=by
 simp [World.setCell,Array.getElem?_modify,h]
def Set9 (w:World) (B:Nat) (v0 v1 v2 v3 v4 v5 v6 v7 v8:Value):World :=
 ((((((((w.setCell ⟨B,0,none⟩ v0).setCell ⟨B,1,none⟩ v1).setCell ⟨B,2,none⟩ v2).setCell ⟨B,3,none⟩ v3).setCell ⟨B,4,none⟩ v4).setCell ⟨B,5,none⟩ v5).setCell ⟨B,6,none⟩ v6).setCell ⟨B,7,none⟩ v7).setCell ⟨B,8,none⟩ v8
theorem own_set9 {w:World} {base:Nat} {e:TypeId} {size:Nat} {v:Value} {n:Nat} {xs:List Value} (h:w.ownsRow base e size v n xs) {B:Nat} (ha:B<base) (v0 v1 v2 v3 v4 v5 v6 v7 v8:Value):(Set9 w B v0 v1 v2 v3 v4 v5 v6 v7 v8).ownsRow base e size v n xs :=
 ownsRow_setCell_below (ownsRow_setCell_below (ownsRow_setCell_below (ownsRow_setCell_below (ownsRow_setCell_below (ownsRow_setCell_below (ownsRow_setCell_below (ownsRow_setCell_below (ownsRow_setCell_below h ha _) ha _) ha _) ha _) ha _) ha _) ha _) ha _) ha _
theorem below_set9 {w w':World} {base B:Nat} (h:Below base w w') (hb:base≤B) (v0 v1 v2 v3 v4 v5 v6 v7 v8:Value):Below base w (Set9 w' B v0 v1 v2 v3 v4 v5 v6 v7 v8) :=
 ((((((((h.setCell hb _).setCell hb _).setCell hb _).setCell hb _).setCell hb _).setCell hb _).setCell hb _).setCell hb _).setCell hb _
end Go.GrainU
namespace Go.Proofs.YtoldmigappbjcaaGreatDoor
open Go.RowKit Go.GrainU
def sob (v0 v1 v2 v3 v4 v5 v6 v7 v8:Value):Obj:=.cells #[v0,v1,v2,v3,v4,v5,v6,v7,v8] 59
theorem sob_cells {w:World} {B:Nat} {v0 v1 v2 v3 v4 v5 v6 v7 v8:Value} (h:w.heap[B]?=some (sob v0 v1 v2 v3 v4 v5 v6 v7 v8)) :
  w.cell? ⟨B,0,none⟩=some v0∧w.cell? ⟨B,1,none⟩=some v1∧w.cell? ⟨B,2,none⟩=some v2∧w.cell? ⟨B,3,none⟩=some v3∧w.cell? ⟨B,4,none⟩=some v4∧w.cell? ⟨B,5,none⟩=some v5∧w.cell? ⟨B,6,none⟩=some v6∧w.cell? ⟨B,7,none⟩=some v7∧w.cell? ⟨B,8,none⟩=some v8:=by
 unfold sob at h
 simp [World.cell?,h]
theorem sob_free {w:World} {B:Nat} {v0 v1 v2 v3 v4 v5 v6 v7 v8:Value} (h:w.heap[B]?=some (sob v0 v1 v2 v3 v4 v5 v6 v7 v8)) :
  w.frozen? ⟨B,0,none⟩=false∧w.frozen? ⟨B,1,none⟩=false∧w.frozen? ⟨B,2,none⟩=false∧w.frozen? ⟨B,3,none⟩=false∧w.frozen? ⟨B,4,none⟩=false∧w.frozen? ⟨B,5,none⟩=false∧w.frozen? ⟨B,6,none⟩=false∧w.frozen? ⟨B,7,none⟩=false∧w.frozen? ⟨B,8,none⟩=false:=by
 unfold sob at h
 simp [World.frozen?,h]
set_option maxHeartbeats 2000000 in
theorem cshelf_any (x:ShT) (w:World) (hx:ShIn w x) :
  Calls Tryz.prog 131 #[x.v] w fun e w'=>∃ y,e=.returned y.v∧y.s=x.s∧ShO w.heap.size w' y∧Below w.heap.size w w':=by
 obtain ⟨⟨se,ra,fi,co,rf,ff,ft,cf,ct⟩,a0,c0,a1,c1,a2,c2,a3,c3⟩:=x
 obtain ⟨m0,e0⟩:∃ m,m=se.length:=⟨_,rfl⟩
 obtain ⟨m1,e1⟩:∃ m,m=ra.length:=⟨_,rfl⟩
 obtain ⟨m2,e2⟩:∃ m,m=fi.length:=⟨_,rfl⟩
 obtain ⟨m3,e3⟩:∃ m,m=co.length:=⟨_,rfl⟩
 obtain ⟨X,hX⟩:∃ X,X=w.heap.size:=⟨_,rfl⟩
 obtain ⟨V,hV⟩:∃ V,V=(w.alloc (.cells #[.slice a0 m0 c0,.slice a1 m1 c1,.slice a2 m2 c2,.slice a3 m3 c3,.int .i64 rf,.int .i64 ff,.int .i64 ft,.int .i64 cf,.int .i64 ct] 59)).alloc (.cells #[.slice none 0 0,.slice none 0 0,.slice none 0 0,.slice none 0 0,.int .i64 0,.int .i64 0,.int .i64 0,.int .i64 0,.int .i64 0] 59):=⟨_,rfl⟩
 have bel:Below X w V:=by rw [hV,hX];exact ((Below.refl _ _).alloc (Nat.le_refl _) _).alloc (by simp) _
 have hVs:V.heap.size=X+2:=by rw [hV,hX];simp
 have B0:V.heap[X]?=some (sob (.slice a0 m0 c0) (.slice a1 m1 c1) (.slice a2 m2 c2) (.slice a3 m3 c3) (.int .i64 rf) (.int .i64 ff) (.int .i64 ft) (.int .i64 cf) (.int .i64 ct)):=by
  rw [hV,hX,Below.heap_alloc _ _ _ (by simp)];exact heap_alloc_new w _
 have R0:V.heap[X+1]?=some (sob (.slice none 0 0) (.slice none 0 0) (.slice none 0 0) (.slice none 0 0) (.int .i64 0) (.int .i64 0) (.int .i64 0) (.int .i64 0) (.int .i64 0)):=by
  have e:X+1=(w.alloc (.cells #[.slice a0 m0 c0,.slice a1 m1 c1,.slice a2 m2 c2,.slice a3 m3 c3,.int .i64 rf,.int .i64 ff,.int .i64 ft,.int .i64 cf,.int .i64 ct] 59)).heap.size:=by rw [hX];simp
  rw [hV,e]
  exact heap_alloc_new _ _
 obtain ⟨g0,g1,g2,g3,fits,n0,n1,n2,n3,z0,z1,z2,z3⟩:=hx
 simp only at g0 g1 g2 g3 fits n0 n1 n2 n3 z0 z1 z2 z3
 rw [← e0] at n0 z0
 rw [← e1] at n1 z1
 rw [← e2] at n2 z2
 rw [← e3] at n3 z3
 simp only [ShT.v,← e0,← e1,← e2,← e3]
 rw [← hX]
 have HX:=hide hX
 have hsw:∀ W:World,Below X w W→Below w.heap.size w W:=fun W h=>by rw [← HX.out];exact h
 have g0':=g0.below (hsw _ bel)
 have HZ0:=hide z0
 have HZ1:=hide z1
 have HZ2:=hide z2
 have HZ3:=hide z3
 have HV:=hide hV
 have H0:=hide e0
 have H1:=hide e1
 have H2:=hide e2
 have H3:=hide e3
 have HS:=hide hsw
 clear hV hX e0 e1 e2 e3 z0 z1 z2 z3 hsw
 go_enter Tryz.func131,Tryz.ntmps131
 go_wp2_with fail
 rw [← HV.out,← HX.out]
 refine (lcopy_any se a0 m0 c0 V g0' H0.out n0 HZ0.out).mono ?_
 rintro e w1 ⟨A0,N0,D0,rfl,own0,hb1⟩
 have hN0:N0=m0:=by have:=own0.1;rw [lcells_length,← H0.out] at this;omega
 subst hN0
 have B1:=below_block hb1 B0
 have R1:=below_block hb1 R0
 have bel1:Below X w w1:=bel.trans (hb1.mono (by have:=bel.size;have:=HX.out;omega))
 obtain ⟨r0,r1,r2,r3,r4,r5,r6,r7,r8⟩:=sob_cells B1
 obtain ⟨f0,f1,f2,f3,f4,f5,f6,f7,f8⟩:=sob_free B1
 obtain ⟨W1,hW1⟩:∃ W,W=w1.setCell ⟨X,0,none⟩ (.slice A0 N0 D0):=⟨_,rfl⟩
 have B1':W1.heap[X]?=some (sob (.slice A0 N0 D0) (.slice a1 m1 c1) (.slice a2 m2 c2) (.slice a3 m3 c3) (.int .i64 rf) (.int .i64 ff) (.int .i64 ft) (.int .i64 cf) (.int .i64 ct)):=by rw [hW1];exact set_block B1 _
 have R1':W1.heap[X+1]?=some (sob (.slice none 0 0) (.slice none 0 0) (.slice none 0 0) (.slice none 0 0) (.int .i64 0) (.int .i64 0) (.int .i64 0) (.int .i64 0) (.int .i64 0)):=by rw [hW1,setCell_far (by omega)];exact R1
 have bel1':Below X w W1:=by rw [hW1];exact bel1.setCell (Nat.le_refl _) _
 have hs1:V.heap.size≤W1.heap.size:=by rw [hW1];have:=hb1.size;simpa using this
 have own0':W1.ownsRow V.heap.size 88 2 (.slice A0 N0 D0) N0 (lcells se):=by rw [hW1];exact ownsRow_setCell_below own0 (by show X<V.heap.size;omega) _
 have HW1:=hide hW1
 clear hW1 own0 hb1 B0 R0 B1 R1 bel1 g0' HV
 go_upto_region 2 with fail
 rw [← HW1.out]
 clear r0 r1 r2 r3 r4 r5 r6 r7 r8 f0 f1 f2 f3 f4 f5 f6 f7 f8 HW1
 obtain ⟨r0,r1,r2,r3,r4,r5,r6,r7,r8⟩:=sob_cells B1'
 have g1':=g1.below (HS.out _ bel1')
 go_wp2_with fail
 refine (scopy_any ra a1 m1 c1 W1 g1' H1.out n1 HZ1.out).mono ?_
 rintro e w2 ⟨A1,N1,D1,rfl,own1,hb2⟩
 have hN1:N1=m1:=by have:=own1.1;rw [scells_length,← H1.out] at this;omega
 subst hN1
 have B2:=below_block hb2 B1'
 have R2:=below_block hb2 R1'
 have bel2:Below X w w2:=bel1'.trans (hb2.mono (by have:=bel1'.size;have:=HX.out;omega))
 have own0b:=own_below own0' hb2
 clear r0 r1 r2 r3 r4 r5 r6 r7 r8
 obtain ⟨r0,r1,r2,r3,r4,r5,r6,r7,r8⟩:=sob_cells B2
 obtain ⟨f0,f1,f2,f3,f4,f5,f6,f7,f8⟩:=sob_free B2
 obtain ⟨W2,hW2⟩:∃ W,W=w2.setCell ⟨X,1,none⟩ (.slice A1 N1 D1):=⟨_,rfl⟩
 have B2':W2.heap[X]?=some (sob (.slice A0 N0 D0) (.slice A1 N1 D1) (.slice a2 m2 c2) (.slice a3 m3 c3) (.int .i64 rf) (.int .i64 ff) (.int .i64 ft) (.int .i64 cf) (.int .i64 ct)):=by rw [hW2];exact set_block B2 _
 have R2':W2.heap[X+1]?=some (sob (.slice none 0 0) (.slice none 0 0) (.slice none 0 0) (.slice none 0 0) (.int .i64 0) (.int .i64 0) (.int .i64 0) (.int .i64 0) (.int .i64 0)):=by rw [hW2,setCell_far (by omega)];exact R2
 have bel2':Below X w W2:=by rw [hW2];exact bel2.setCell (Nat.le_refl _) _
 have hs2:W1.heap.size≤W2.heap.size:=by rw [hW2];have:=hb2.size;simpa using this
 have own0c:W2.ownsRow V.heap.size 88 2 (.slice A0 N0 D0) N0 (lcells se):=by rw [hW2];exact ownsRow_setCell_below own0b (by show X<V.heap.size;omega) _
 have own1c:W2.ownsRow W1.heap.size 34 2 (.slice A1 N1 D1) N1 (scells ra):=by rw [hW2];exact ownsRow_setCell_below own1 (by show X<W1.heap.size;omega) _
 have HW2:=hide hW2
 clear hW2 own1 own0' own0b hb2 B1' R1' B2 R2 bel2 bel1' g1'
 go_upto_region 3 with fail
 rw [← HW2.out]
 clear r0 r1 r2 r3 r4 r5 r6 r7 r8 f0 f1 f2 f3 f4 f5 f6 f7 f8 HW2
 obtain ⟨r0,r1,r2,r3,r4,r5,r6,r7,r8⟩:=sob_cells B2'
 have g2':=g2.below (HS.out _ bel2')
 go_wp2_with fail
 refine (kcopy_any fi a2 m2 c2 W2 g2' H2.out n2 HZ2.out).mono ?_
 rintro e w3 ⟨A2,N2,D2,rfl,own2,hb3⟩
 have hN2:N2=m2:=by have:=own_klen own2;rw [← H2.out] at this;exact this
 subst hN2
 have B3:=below_block hb3 B2'
 have R3:=below_block hb3 R2'
 have bel3:Below X w w3:=bel2'.trans (hb3.mono (by have:=bel2'.size;have:=HX.out;omega))
 have own0d:=own_below own0c hb3
 have own1d:=own_below own1c hb3
 clear r0 r1 r2 r3 r4 r5 r6 r7 r8
 obtain ⟨r0,r1,r2,r3,r4,r5,r6,r7,r8⟩:=sob_cells B3
 obtain ⟨f0,f1,f2,f3,f4,f5,f6,f7,f8⟩:=sob_free B3
 obtain ⟨W3,hW3⟩:∃ W,W=w3.setCell ⟨X,2,none⟩ (.slice A2 N2 D2):=⟨_,rfl⟩
 have B3':W3.heap[X]?=some (sob (.slice A0 N0 D0) (.slice A1 N1 D1) (.slice A2 N2 D2) (.slice a3 m3 c3) (.int .i64 rf) (.int .i64 ff) (.int .i64 ft) (.int .i64 cf) (.int .i64 ct)):=by rw [hW3];exact set_block B3 _
 have R3':W3.heap[X+1]?=some (sob (.slice none 0 0) (.slice none 0 0) (.slice none 0 0) (.slice none 0 0) (.int .i64 0) (.int .i64 0) (.int .i64 0) (.int .i64 0) (.int .i64 0)):=by rw [hW3,setCell_far (by omega)];exact R3
 have bel3':Below X w W3:=by rw [hW3];exact bel3.setCell (Nat.le_refl _) _
 have hs3:W2.heap.size≤W3.heap.size:=by rw [hW3];have:=hb3.size;simpa using this
 have own0e:W3.ownsRow V.heap.size 88 2 (.slice A0 N0 D0) N0 (lcells se):=by rw [hW3];exact ownsRow_setCell_below own0d (by show X<V.heap.size;omega) _
 have own1e:W3.ownsRow W1.heap.size 34 2 (.slice A1 N1 D1) N1 (scells ra):=by rw [hW3];exact ownsRow_setCell_below own1d (by show X<W1.heap.size;omega) _
 have own2e:W3.ownsRow W2.heap.size 145 8 (.slice A2 N2 D2) N2 (kcells fi):=by rw [hW3];exact ownsRow_setCell_below own2 (by show X<W2.heap.size;omega) _
 have HW3:=hide hW3
 clear hW3 own2 own0c own1c own0d own1d hb3 B2' R2' B3 R3 bel3 bel2' g2'
 go_upto_region 4 with fail
 rw [← HW3.out]
 clear r0 r1 r2 r3 r4 r5 r6 r7 r8 f0 f1 f2 f3 f4 f5 f6 f7 f8 HW3
 obtain ⟨r0,r1,r2,r3,r4,r5,r6,r7,r8⟩:=sob_cells B3'
 have g3':=g3.below (HS.out _ bel3')
 go_wp2_with fail
 refine (kcopy_any co a3 m3 c3 W3 g3' H3.out n3 HZ3.out).mono ?_
 rintro e w4 ⟨A3,N3,D3,rfl,own3,hb4⟩
 have hN3:N3=m3:=by have:=own_klen own3;rw [← H3.out] at this;exact this
 subst hN3
 have B4:=below_block hb4 B3'
 have R4:=below_block hb4 R3'
 have bel4:Below X w w4:=bel3'.trans (hb4.mono (by have:=bel3'.size;have:=HX.out;omega))
 have own0f:=own_below own0e hb4
 have own1f:=own_below own1e hb4
 have own2f:=own_below own2e hb4
 clear r0 r1 r2 r3 r4 r5 r6 r7 r8
 obtain ⟨r0,r1,r2,r3,r4,r5,r6,r7,r8⟩:=sob_cells B4
 obtain ⟨f0,f1,f2,f3,f4,f5,f6,f7,f8⟩:=sob_free B4
 obtain ⟨W4,hW4⟩:∃ W,W=w4.setCell ⟨X,3,none⟩ (.slice A3 N3 D3):=⟨_,rfl⟩
 have B4':W4.heap[X]?=some (sob (.slice A0 N0 D0) (.slice A1 N1 D1) (.slice A2 N2 D2) (.slice A3 N3 D3) (.int .i64 rf) (.int .i64 ff) (.int .i64 ft) (.int .i64 cf) (.int .i64 ct)):=by rw [hW4];exact set_block B4 _
 have R4':W4.heap[X+1]?=some (sob (.slice none 0 0) (.slice none 0 0) (.slice none 0 0) (.slice none 0 0) (.int .i64 0) (.int .i64 0) (.int .i64 0) (.int .i64 0) (.int .i64 0)):=by rw [hW4,setCell_far (by omega)];exact R4
 have bel4':Below X w W4:=by rw [hW4];exact bel4.setCell (Nat.le_refl _) _
 have own0g:W4.ownsRow V.heap.size 88 2 (.slice A0 N0 D0) N0 (lcells se):=by rw [hW4];exact ownsRow_setCell_below own0f (by show X<V.heap.size;omega) _
 have own1g:W4.ownsRow W1.heap.size 34 2 (.slice A1 N1 D1) N1 (scells ra):=by rw [hW4];exact ownsRow_setCell_below own1f (by show X<W1.heap.size;omega) _
 have own2g:W4.ownsRow W2.heap.size 145 8 (.slice A2 N2 D2) N2 (kcells fi):=by rw [hW4];exact ownsRow_setCell_below own2f (by show X<W2.heap.size;omega) _
 have own3g:W4.ownsRow W3.heap.size 145 8 (.slice A3 N3 D3) N3 (kcells co):=by rw [hW4];exact ownsRow_setCell_below own3 (by show X<W3.heap.size;omega) _
 have ne:∀ g,(Value.slice A2 N2 D2).ownBlock=some g→(Value.slice A3 N3 D3).ownBlock≠some g:=by
  intro g h h'
  have i1:=own2e.lt g h
  have i2:=own3.lt g h'
  omega
 have HW4:=hide hW4
 have NE:=hide ne
 clear hW4 own3 own0e own1e own2e own0f own1f own2f hb4 B3' R3' B4 R4 bel4 bel3' g3' ne
 go_upto_region 5 with fail
 rw [← HW4.out]
 clear r0 r1 r2 r3 r4 r5 r6 r7 r8 f0 f1 f2 f3 f4 f5 f6 f7 f8 HW4
 obtain ⟨r0,r1,r2,r3,r4,r5,r6,r7,r8⟩:=sob_cells B4'
 obtain ⟨q0,q1,q2,q3,q4,q5,q6,q7,q8⟩:=sob_cells R4'
 obtain ⟨f0,f1,f2,f3,f4,f5,f6,f7,f8⟩:=sob_free R4'
 go_wp2
 refine bodyPost_ret (v:=.agg #[.slice A0 N0 D0,.slice A1 N1 D1,.slice A2 N2 D2,.slice A3 N3 D3,.int .i64 rf,.int .i64 ff,.int .i64 ft,.int .i64 cf,.int .i64 ct]) (by simp [results,Tryz.results131,go_sem,q0,q1,q2,q3,q4,q5,q6,q7,q8]) rfl ?_
 refine ⟨⟨⟨se,ra,fi,co,rf,ff,ft,cf,ct⟩,A0,D0,A1,D1,A2,D2,A3,D3⟩,?_,rfl,⟨?_,?_,?_,?_,?_,fits,?_,?_,?_,?_⟩,below_set9 bel4' (Nat.le_succ X) _ _ _ _ _ _ _ _ _⟩
 ·simp only [← H0.out,← H1.out,← H2.out,← H3.out]
 ·simp only [← H0.out];exact own_down (own_set9 own0g (by omega) _ _ _ _ _ _ _ _ _) (by omega)
 ·simp only [← H1.out];exact own_down (own_set9 own1g (by omega) _ _ _ _ _ _ _ _ _) (by omega)
 ·simp only [← H2.out];exact own_down (own_set9 own2g (by omega) _ _ _ _ _ _ _ _ _) (by omega)
 ·simp only [← H3.out];exact own_down (own_set9 own3g (by omega) _ _ _ _ _ _ _ _ _) (by omega)
 ·simp only [← H2.out,← H3.out];exact NE.out
 ·simp only [← H0.out];exact n0
 ·simp only [← H1.out];exact n1
 ·simp only [← H2.out];exact n2
 ·simp only [← H3.out];exact n3
end Go.Proofs.YtoldmigappbjcaaGreatDoor
namespace Grain
theorem wrong_one (t v:Int):wrong [(t,v)]=if inR t v=true then (0,0) else (3,0):=by
 unfold wrong
 rw [if_neg (by simp)]
 by_cases h:inR t v=true
 ·rw [if_pos h]
  have hb:bad [(t,v)] 0=0:=by
   unfold bad
   simp only [tm,vl,List.getD_cons_zero]
   rw [if_neg (by rw [h];decide),if_neg (by simp)]
  show wrongF [(t,v)] (0+1) 0=_
  rw [wrongF_ok hb]
  rfl
 ·rw [if_neg h]
  have hb:bad [(t,v)] 0=3:=by
   unfold bad
   simp only [tm,vl,List.getD_cons_zero]
   have:inR t v=false:=by simpa using h
   rw [if_pos (by rw [this])]
  show wrongF [(t,v)] (0+1) 0=_
  rw [wrongF_no (by rw [hb];decide),hb]
  rfl
end Grain
namespace Go.GrainU
open Go.RowKit
theorem own_far {w:World} {base e size n:Nat} {v:Value} {xs:List Value} (h:w.ownsRow base e size v n xs) {k:Nat} {c:Array Value} {t:TypeId} {fr:Nat×Nat} (hk:w.heap[k]?=some (.cells c t fr)) (ht:t≠e):v.ownBlock≠some k:=by
 intro hv
 rcases h.2 with ⟨h2,_⟩ | ⟨g,cap,cur,h2,_,hg,_⟩
 ·rw [h2] at hv;simp [Value.ownBlock] at hv
 ·rw [h2] at hv
  simp [Value.ownBlock] at hv
  subst hv
  rw [hk] at hg
  simp at hg
  exact ht hg.2.1
theorem own_keep {w w':World} {base e size n:Nat} {v:Value} {xs:List Value} {r:Option Nat} (h:w.ownsRow base e size v n xs) (hg:w.grownBy w' r) (hne:∀ k,v.ownBlock=some k→r≠some k):w'.ownsRow base e size v n xs:=by
 obtain ⟨h1,h2⟩:=h
 refine ⟨h1,?_⟩
 rcases h2 with h2 | ⟨g,cap,cur,hv,hb,hh,rest⟩
 ·exact Or.inl h2
 ·have hl:g<w.heap.size:=by
   rcases Nat.lt_or_ge g w.heap.size with h | h
   ·exact h
   ·rw [Array.getElem?_eq_none h] at hh;cases hh
  refine Or.inr ⟨g,cap,cur,hv,hb,?_,rest⟩
  rw [hg.block g hl (fun e=>hne g (by rw [hv];rfl) e.symm)];exact hh
theorem own_types {w:World} {base base' e e' size size' n n':Nat} {v v':Value} {xs xs':List Value} (h:w.ownsRow base e size v n xs) (h':w.ownsRow base' e' size' v' n' xs') (ht:e≠e'):∀ k,v.ownBlock=some k→v'.ownBlock≠some k:=by
 intro k hk
 rcases h.2 with ⟨h2,_⟩ | ⟨g,cap,cur,h2,_,hg,_⟩
 ·rw [h2] at hk;simp [Value.ownBlock] at hk
 ·rw [h2] at hk
  simp [Value.ownBlock] at hk
  subst hk
  exact own_far h' hg ht
end Go.GrainU
namespace Go.Proofs.YtoldmigappbjcaaGreatDoor
open Go.RowKit Go.GrainU
def szT:ShT:=⟨Grain.szero,none,0,none,0,none,0,none,0⟩
theorem szT_own (b:Nat) (w:World):ShO b w szT:=by
 refine ⟨World.ownsRow_nil _ _ _ _,World.ownsRow_nil _ _ _ _,World.ownsRow_nil _ _ _ _,World.ownsRow_nil _ _ _ _,fun g h=>?_,?_,?_,?_,?_,?_⟩
 ·simp [szT,Value.ownBlock] at h
 ·intro k hk;simp [szT,Grain.szero] at hk
 all_goals simp [szT,Grain.szero]
def ShPost (w:World) (r:Grain.Shf×Int) (e:Ending) (w':World):Prop :=
 ∃ y:ShT,e=.returned (.tuple #[y.v,.int .i64 r.2])∧y.s=r.1∧ShO w.heap.size w' y∧Below w.heap.size w w'
theorem shpost_no {w w':World} {E:Int} {r:Grain.Shf×Int} (h:r=(Grain.szero,E)) (hb:Below w.heap.size w w') :
  ShPost w r (.returned (.tuple #[.agg #[.slice none 0 0,.slice none 0 0,.slice none 0 0,.slice none 0 0,.int .i64 0,.int .i64 0,.int .i64 0,.int .i64 0,.int .i64 0],.int .i64 E])) w':=by
 subst h
 exact ⟨szT,rfl,rfl,szT_own _ _,hb⟩
set_option maxHeartbeats 4000000 in
theorem sapp_any (x:ShT) (t v:Int) (w:World) (hx:ShIn w x) :
  Calls Tryz.prog 127 #[x.v,.agg #[.int .i64 t,.int .i64 v]] w (ShPost w (Grain.sapp x.s t v)):=by
 have HP:Hid (Grain.sapp x.s t v=if Grain.swrong x.s≠0 then (Grain.szero,Grain.swrong x.s) else if Grain.inR t v=false then (Grain.szero,3) else if Grain.late x.s t=true then (Grain.szero,9) else if 500≤x.s.ra.length then (Grain.szero,5) else ({ x.s with ra:=x.s.ra++[(t,v)] },0)):=rfl
 obtain ⟨r,hr⟩:∃ r,r=Grain.sapp x.s t v:=⟨_,rfl⟩
 rw [← hr] at HP ⊢
 clear hr
 obtain ⟨y,hy⟩:∃ y,y=x:=⟨_,rfl⟩
 obtain ⟨⟨se,ra,fi,co,rf,ff,ft,cf,ct⟩,a0,c0,a1,c1,a2,c2,a3,c3⟩:=x
 obtain ⟨m0,e0⟩:∃ m,m=se.length:=⟨_,rfl⟩
 obtain ⟨m1,e1⟩:∃ m,m=ra.length:=⟨_,rfl⟩
 obtain ⟨m2,e2⟩:∃ m,m=fi.length:=⟨_,rfl⟩
 obtain ⟨m3,e3⟩:∃ m,m=co.length:=⟨_,rfl⟩
 have Hv:Hid (y.v=.agg #[.slice a0 m0 c0,.slice a1 m1 c1,.slice a2 m2 c2,.slice a3 m3 c3,.int .i64 rf,.int .i64 ff,.int .i64 ft,.int .i64 cf,.int .i64 ct]):=by
  show _=_
  rw [hy,e0,e1,e2,e3];rfl
 have Hra:Hid (m1=y.s.ra.length):=by show _=_;rw [hy,e1]
 rw [← hy] at HP hx
 rw [← hy,Hv.out]
 rw [← Hra.out] at HP
 clear e0 e1 e2 e3 hy
 obtain ⟨X,hX⟩:∃ X,X=w.heap.size:=⟨_,rfl⟩
 obtain ⟨U,hU⟩:∃ U,U=(w.alloc (.cells #[.slice a0 m0 c0,.slice a1 m1 c1,.slice a2 m2 c2,.slice a3 m3 c3,.int .i64 rf,.int .i64 ff,.int .i64 ft,.int .i64 cf,.int .i64 ct] 59)).alloc (.cells #[.int .i64 t,.int .i64 v] 34):=⟨_,rfl⟩
 obtain ⟨V,hV⟩:∃ V,V=U.alloc (.cells #[.slice none 0 0,.slice none 0 0,.slice none 0 0,.slice none 0 0,.int .i64 0,.int .i64 0,.int .i64 0,.int .i64 0,.int .i64 0] 59):=⟨_,rfl⟩
 have hUs:U.heap.size=X+2:=by rw [hU,hX];simp
 have hVs:V.heap.size=X+3:=by rw [hV];simp [hUs]
 have bel:Below w.heap.size w V:=by rw [hV,hU];exact (((Below.refl _ _).alloc (Nat.le_refl _) _).alloc (by simp) _).alloc (by simp;omega) _
 have B0:V.heap[X]?=some (sob (.slice a0 m0 c0) (.slice a1 m1 c1) (.slice a2 m2 c2) (.slice a3 m3 c3) (.int .i64 rf) (.int .i64 ff) (.int .i64 ft) (.int .i64 cf) (.int .i64 ct)):=by
  rw [hV,Below.heap_alloc _ _ _ (by omega),hU,Below.heap_alloc _ _ _ (by rw [hX];simp),hX];exact heap_alloc_new w _
 have S0:V.heap[X+1]?=some (.cells #[.int .i64 t,.int .i64 v] 34 (0,0)):=by
  have e:X+1=(w.alloc (.cells #[.slice a0 m0 c0,.slice a1 m1 c1,.slice a2 m2 c2,.slice a3 m3 c3,.int .i64 rf,.int .i64 ff,.int .i64 ft,.int .i64 cf,.int .i64 ct] 59)).heap.size:=by rw [hX];simp
  rw [hV,Below.heap_alloc _ _ _ (by omega),hU,e];exact heap_alloc_new _ _
 have R0:V.heap[X+2]?=some (sob (.slice none 0 0) (.slice none 0 0) (.slice none 0 0) (.slice none 0 0) (.int .i64 0) (.int .i64 0) (.int .i64 0) (.int .i64 0) (.int .i64 0)):=by
  rw [hV,← hUs];exact heap_alloc_new _ _
 have HV:Hid (V=((w.alloc (.cells #[.slice a0 m0 c0,.slice a1 m1 c1,.slice a2 m2 c2,.slice a3 m3 c3,.int .i64 rf,.int .i64 ff,.int .i64 ft,.int .i64 cf,.int .i64 ct] 59)).alloc (.cells #[.int .i64 t,.int .i64 v] 34)).alloc (.cells #[.slice none 0 0,.slice none 0 0,.slice none 0 0,.slice none 0 0,.int .i64 0,.int .i64 0,.int .i64 0,.int .i64 0,.int .i64 0] 59)):=by rw [hV,hU];exact rfl
 have hXw:w.heap.size≤X:=by omega
 have HX:=hide hX
 have hxV:=hx.below bel
 clear hU hV hX hUs
 have HVs:=hide hVs
 clear hVs
 go_enter Tryz.func127,Tryz.ntmps127
 go_wp2_with fail
 rw [← HV.out,← Hv.out,← HX.out]
 refine (swrong_any y V hxV).mono ?_
 rintro e w1 ⟨rfl,hb1⟩
 have bel1:Below w.heap.size w w1:=bel.trans (hb1.mono bel.size)
 have B1:=below_block hb1 B0
 have S1:=below_block hb1 S0
 have R1:=below_block hb1 R0
 have hx1:=hxV.below hb1
 have hs1:X+3≤w1.heap.size:=by have:=hb1.size;have:=HVs.out;omega
 clear HV hb1 B0 S0 R0 hxV bel
 obtain ⟨q0,q1,q2,q3,q4,q5,q6,q7,q8⟩:=sob_cells R1
 obtain ⟨f0,f1,f2,f3,f4,f5,f6,f7,f8⟩:=sob_free R1
 obtain ⟨s0,s1,_,_⟩:=two_cells S1
 obtain ⟨E,hE⟩:∃ E,E=Grain.swrong y.s:=⟨_,rfl⟩
 rw [← hE] at HP ⊢
 clear hE
 by_cases z:E=0
 ·subst z
  have HP1:Hid (r=if Grain.inR t v=false then (Grain.szero,3) else if Grain.late y.s t=true then (Grain.szero,9) else if 500≤m1 then (Grain.szero,5) else ({ y.s with ra:=y.s.ra++[(t,v)] },0)):=by
   show _=_;rw [HP.out,if_neg (by simp)]
  clear HP
  obtain ⟨W1,hW1⟩:∃ W,W=w1.alloc (.cells #[.int .i64 t,.int .i64 v] 34):=⟨_,rfl⟩
  have hbW:Below w1.heap.size w1 W1:=by rw [hW1];exact (Below.refl _ _).alloc (Nat.le_refl _) _
  have sg:Seg W1 (some ⟨w1.heap.size,0,none⟩) (scells [(t,v)]):=by rw [hW1];exact seg_new w1 _ _
  have HW1:=hide hW1
  clear hW1
  go_wp2_with fail
  rw [← HW1.out]
  refine (wrong_len [(t,v)] _ 1 1 W1 sg rfl).mono ?_
  rintro e w2 ⟨rfl,hb2⟩
  rw [Grain.wrong_one]
  have hb12:Below w1.heap.size w1 w2:=hbW.trans (hb2.mono hbW.size)
  have bel2:Below w.heap.size w w2:=bel1.trans (hb12.mono bel1.size)
  have B2:=below_block hb12 B1
  have S2:=below_block hb12 S1
  have R2:=below_block hb12 R1
  have hx2:=hx1.below hb12
  have hs2:X+3≤w2.heap.size:=by have:=hb12.size;omega
  clear HW1 hb2 hbW hb12 sg B1 S1 R1 hx1 bel1 hs1 q0 q1 q2 q3 q4 q5 q6 q7 q8 f0 f1 f2 f3 f4 f5 f6 f7 f8 s0 s1
  cases hin:Grain.inR t v
  ·have HP2:Hid (r=(Grain.szero,3)):=by show _=_;rw [HP1.out,if_pos hin]
   clear HP1 hin
   obtain ⟨W2,hW2⟩:∃ W,W=w2.alloc (.cells #[.int .i64 3,.int .i64 0] 43):=⟨_,rfl⟩
   have hbW:Below w2.heap.size w2 W2:=by rw [hW2];exact (Below.refl _ _).alloc (Nat.le_refl _) _
   have bel3:Below w.heap.size w W2:=bel2.trans (hbW.mono bel2.size)
   have R3:=below_block hbW R2
   have p0:W2.cell? ⟨w2.heap.size,0,none⟩=some (.int .i64 3):=by rw [hW2];simp
   obtain ⟨q0,q1,q2,q3,q4,q5,q6,q7,q8⟩:=sob_cells R3
   obtain ⟨f0,f1,f2,f3,f4,f5,f6,f7,f8⟩:=sob_free R3
   have HW2:=hide hW2
   clear hW2 hbW B2 S2 R2
   rw [if_neg (by decide)]
   go_upto_region 5 with fail
   rw [← HW2.out]
   go_wp2_with fail
   go_region
   all_goals
    go_wp2
    exact bodyPost_ret (v:=.tuple #[.agg #[.slice none 0 0,.slice none 0 0,.slice none 0 0,.slice none 0 0,.int .i64 0,.int .i64 0,.int .i64 0,.int .i64 0,.int .i64 0],.int .i64 3]) (by simp [results,Tryz.results127,go_sem,q0,q1,q2,q3,q4,q5,q6,q7,q8]) rfl (shpost_no HP2.out (below_drewN (below_set9 bel3 (by omega) _ _ _ _ _ _ _ _ _) 1))
  ·have HP2:Hid (r=if Grain.late y.s t=true then (Grain.szero,9) else if 500≤m1 then (Grain.szero,5) else ({ y.s with ra:=y.s.ra++[(t,v)] },0)):=by
    show _=_;rw [HP1.out,if_neg (by rw [hin];decide)]
   clear HP1 hin
   obtain ⟨W2,hW2⟩:∃ W,W=w2.alloc (.cells #[.int .i64 0,.int .i64 0] 43):=⟨_,rfl⟩
   have hbW:Below w2.heap.size w2 W2:=by rw [hW2];exact (Below.refl _ _).alloc (Nat.le_refl _) _
   have bel3:Below w.heap.size w W2:=bel2.trans (hbW.mono bel2.size)
   have B3:=below_block hbW B2
   have S3:=below_block hbW S2
   have R3:=below_block hbW R2
   have hx3:=hx2.below hbW
   have hs3:X+3≤W2.heap.size:=by have:=hbW.size;omega
   have p0:W2.cell? ⟨w2.heap.size,0,none⟩=some (.int .i64 0):=by rw [hW2];simp
   obtain ⟨b0,b1,b2,b3,b4,b5,b6,b7,b8⟩:=sob_cells B3
   obtain ⟨s0,s1,_,_⟩:=two_cells S3
   have HW2:=hide hW2
   clear hW2 hbW B2 S2 R2 bel2 hs2 hx2
   rw [if_pos rfl]
   go_upto_region 5 with fail
   rw [← HW2.out]
   go_wp2_with fail
   rw [← Hv.out]
   refine (late_any y t W2 hx3).mono ?_
   rintro e w3 ⟨rfl,hb3⟩
   have bel4:Below w.heap.size w w3:=bel3.trans (hb3.mono bel3.size)
   have B4:=below_block hb3 B3
   have S4:=below_block hb3 S3
   have R4:=below_block hb3 R3
   have hx4:=hx3.below hb3
   have hs4:X+3≤w3.heap.size:=by have:=hb3.size;omega
   clear HW2 hb3 B3 S3 R3 bel3 hs3 hx3 b0 b1 b2 b3 b4 b5 b6 b7 b8 s0 s1 p0
   obtain ⟨b0,b1,b2,b3,b4,b5,b6,b7,b8⟩:=sob_cells B4
   obtain ⟨q0,q1,q2,q3,q4,q5,q6,q7,q8⟩:=sob_cells R4
   obtain ⟨f0,f1,f2,f3,f4,f5,f6,f7,f8⟩:=sob_free R4
   cases hl:Grain.late y.s t
   ·by_cases h5:500≤m1
    ·have HP3:Hid (r=(Grain.szero,5)):=by show _=_;rw [HP2.out,if_neg (by rw [hl];decide),if_pos h5]
     have hd:decide ((500:Int)≤(m1:Int))=true:=by simp;omega
     clear HP2 hl h5
     go_wp2
     exact bodyPost_ret (v:=.tuple #[.agg #[.slice none 0 0,.slice none 0 0,.slice none 0 0,.slice none 0 0,.int .i64 0,.int .i64 0,.int .i64 0,.int .i64 0,.int .i64 0],.int .i64 5]) (by simp [results,Tryz.results127,go_sem,q0,q1,q2,q3,q4,q5,q6,q7,q8]) rfl (shpost_no HP3.out (below_set9 bel4 (by omega) _ _ _ _ _ _ _ _ _))
    ·have HP3:Hid (r=({ y.s with ra:=y.s.ra++[(t,v)] },0)):=by show _=_;rw [HP2.out,if_neg (by rw [hl];decide),if_neg h5]
     have hd:decide ((500:Int)≤(m1:Int))=false:=by simp;omega
     clear HP2 hl
     go_wp2_with fail
     rw [← Hv.out]
     refine (cshelf_any y w3 hx4).mono ?_
     rintro e w4 ⟨z,rfl,hz,oz,hb4⟩
     have hzr:z.s.ra.length=m1:=by rw [hz];exact Hra.out.symm
     have bel5:Below w.heap.size w w4:=bel4.trans (hb4.mono bel4.size)
     have S5:=below_block hb4 S4
     have R5:=below_block hb4 R4
     obtain ⟨zs,A0,D0,A1,D1,A2,D2,A3,D3⟩:=z
     simp only at hz hzr
     subst hz
     obtain ⟨o0,o1,o2,o3,one,ofits,on0,on1,on2,on3⟩:=oz
     simp only at o0 o1 o2 o3 one ofits on0 on1 on2 on3
     obtain ⟨k0,d0⟩:∃ m,m=y.s.se.length:=⟨_,rfl⟩
     obtain ⟨k2,d2⟩:∃ m,m=y.s.fi.length:=⟨_,rfl⟩
     obtain ⟨k3,d3⟩:∃ m,m=y.s.co.length:=⟨_,rfl⟩
     simp only [ShT.v,hzr,← d0,← d2,← d3]
     rw [hzr] at o1
     rw [← d0] at o0
     rw [← d2] at o2
     rw [← d3] at o3
     obtain ⟨W4,hW4⟩:∃ W,W=w4.alloc (.cells #[.slice A0 k0 D0,.slice A1 m1 D1,.slice A2 k2 D2,.slice A3 k3 D3,.int .i64 y.s.rf,.int .i64 y.s.ff,.int .i64 y.s.ft,.int .i64 y.s.cf,.int .i64 y.s.ct] 59):=⟨_,rfl⟩
     obtain ⟨Y,hY⟩:∃ Y,Y=w4.heap.size:=⟨_,rfl⟩
     have hbW:Below w4.heap.size w4 W4:=by rw [hW4];exact (Below.refl _ _).alloc (Nat.le_refl _) _
     have B6:W4.heap[Y]?=some (sob (.slice A0 k0 D0) (.slice A1 m1 D1) (.slice A2 k2 D2) (.slice A3 k3 D3) (.int .i64 y.s.rf) (.int .i64 y.s.ff) (.int .i64 y.s.ft) (.int .i64 y.s.cf) (.int .i64 y.s.ct)):=by rw [hW4,hY];exact heap_alloc_new w4 _
     have S6:=below_block hbW S5
     have R6:=below_block hbW R5
     have bel6:Below w.heap.size w W4:=bel5.trans (hbW.mono bel5.size)
     have p0:=own_below o0 hbW
     have p1:=own_below o1 hbW
     have p2:=own_below o2 hbW
     have p3:=own_below o3 hbW
     have hs6:X+3≤W4.heap.size:=by have:=hb4.size;have:=hbW.size;omega
     have hYs:w3.heap.size≤Y:=by rw [hY];exact hb4.size
     have HW4:=hide hW4
     have HY:=hide hY
     have HD0:=hide d0
     have HD2:=hide d2
     have HD3:=hide d3
     have HZ:=hide hzr
     clear hW4 hY d0 d2 d3 hzr o0 o1 o2 o3 hbW S5 R5 hb4 bel5 bel4 S4 R4 B4 hx4 b0 b1 b2 b3 b4 b5 b6 b7 b8 q0 q1 q2 q3 q4 q5 q6 q7 q8 f0 f1 f2 f3 f4 f5 f6 f7 f8
     go_upto_region 12 with fail
     rw [← HW4.out,← HY.out]
     obtain ⟨b0,b1,b2,b3,b4,b5,b6,b7,b8⟩:=sob_cells B6
     obtain ⟨s0,s1,_,_⟩:=two_cells S6
     obtain ⟨i0,hi,hz0,hz1,hz2⟩:=sinfo_parts Tryz.infoSmp
     have hs36:w3.heap.size≤W4.heap.size:=by have:=(own_seg' p1);have:=hYs;have:Y<W4.heap.size:=lt_of_block B6;omega
     go_wp2_with (at_builtin;refine wpList_append_lies _ rfl _ _ 56 rfl w3.heap.size 34 i0 (.agg #[.int .i64 0,.int .i64 0]) 2 16 Tryz.underlying56 hi hz0 hz1 hz2 rfl (by decide) _ _ _ rfl (p1.alloc _) ⟨W4.heap.size,0,none⟩ 1 1 [.int .i64 t,.int .i64 v] rfl rfl (news_two rfl _ _ _) (by simp [Value.oneCell']) (by decide) (by unfold maxLen;omega) (by omega) (by simp;omega) (W4.heap.size+1) (by simp) ?_)
     intro g' cp' w5 own5 gr5 hat5 hlt5
     have l6:Y<W4.heap.size:=lt_of_block B6
     have l7:X+2<W4.heap.size:=lt_of_block R6
     have B7:w5.heap[Y]?=some (sob (.slice A0 k0 D0) (.slice A1 m1 D1) (.slice A2 k2 D2) (.slice A3 k3 D3) (.int .i64 y.s.rf) (.int .i64 y.s.ff) (.int .i64 y.s.ft) (.int .i64 y.s.cf) (.int .i64 y.s.ct)):=by
      rw [gr5.block Y (by simp;omega) (fun e=>own_far p1 B6 (by decide) e.symm),Below.heap_alloc _ _ _ l6];exact B6
     have R7:=(gr5.block (X+2) (by simp;omega) (fun e=>own_far p1 R6 (by decide) e.symm)).trans ((Below.heap_alloc _ _ _ l7).trans R6)
     have bel7:Below w.heap.size w w5:=(bel6.alloc bel6.size _).grown gr5 (by have:=bel6.size;simp;omega) (fun j hj=>by have:=(p1.lt j hj).1;have:=bel6.size;omega)
     have r0:=own_keep (p0.alloc _) gr5 (own_types p0 p1 (by decide))
     have r2:=own_keep (p2.alloc _) gr5 (own_types p2 p1 (by decide))
     have r3:=own_keep (p3.alloc _) gr5 (own_types p3 p1 (by decide))
     have t0:=own_far r0 B7 (by decide)
     have t1:=own_far own5 B7 (by decide)
     have t2:=own_far r2 B7 (by decide)
     have t3:=own_far r3 B7 (by decide)
     have hs7:X+3≤w5.heap.size:=by have:=gr5.size;simp at this;omega
     clear gr5 hat5 hlt5 p0 p1 p2 p3 B6 S6 R6 bel6 b0 b1 b2 b3 b4 b5 b6 b7 b8 s0 s1 hi hz0 hz1 hz2
     obtain ⟨b0,b1,b2,b3,b4,b5,b6,b7,b8⟩:=sob_cells B7
     obtain ⟨g0,g1,g2,g3,g4,g5,g6,g7,g8⟩:=sob_free B7
     obtain ⟨q0,q1,q2,q3,q4,q5,q6,q7,q8⟩:=sob_cells R7
     obtain ⟨f0,f1,f2,f3,f4,f5,f6,f7,f8⟩:=sob_free R7
     have hYX:Y≠X+2:=by omega
     have hYX':Y≠X+1+1:=by omega
     go_upto_region 13 with fail
     obtain ⟨W5,hW5⟩:∃ W,W=w5.setCell ⟨Y,1,none⟩ (.slice (some ⟨g',0,none⟩) (m1+1) cp'):=⟨_,rfl⟩
     rw [← hW5]
     have B8:W5.heap[Y]?=some (sob (.slice A0 k0 D0) (.slice (some ⟨g',0,none⟩) (m1+1) cp') (.slice A2 k2 D2) (.slice A3 k3 D3) (.int .i64 y.s.rf) (.int .i64 y.s.ff) (.int .i64 y.s.ft) (.int .i64 y.s.cf) (.int .i64 y.s.ct)):=by rw [hW5];exact set_block B7 _
     have R8:W5.heap[X+2]?=some (sob (.slice none 0 0) (.slice none 0 0) (.slice none 0 0) (.slice none 0 0) (.int .i64 0) (.int .i64 0) (.int .i64 0) (.int .i64 0) (.int .i64 0)):=by rw [hW5,setCell_far (fun e=>hYX e.symm)];exact R7
     have bel8:Below w.heap.size w W5:=by rw [hW5];exact bel7.setCell (by have:=HX.out;show w.heap.size≤Y;omega) _
     have c0:W5.ownsRow w3.heap.size 88 2 (.slice A0 k0 D0) k0 (lcells y.s.se):=by rw [hW5];exact ownsRow_setCell_other r0 t0 _
     have c1:W5.ownsRow w3.heap.size 34 2 (.slice (some ⟨g',0,none⟩) (m1+1) cp') (m1+1) (scells (y.s.ra++[(t,v)])):=by rw [hW5,scells_append];exact ownsRow_setCell_other own5 t1 _
     have c2:W5.ownsRow w3.heap.size 145 8 (.slice A2 k2 D2) k2 (kcells y.s.fi):=by rw [hW5];exact ownsRow_setCell_other r2 t2 _
     have c3:W5.ownsRow w3.heap.size 145 8 (.slice A3 k3 D3) k3 (kcells y.s.co):=by rw [hW5];exact ownsRow_setCell_other r3 t3 _
     clear hW5 r0 r2 r3 own5 t0 t1 t2 t3 B7 R7 bel7 b0 b1 b2 b3 b4 b5 b6 b7 b8 g0 g1 g2 g3 g4 g5 g6 g7 g8 q0 q1 q2 q3 q4 q5 q6 q7 q8 f0 f1 f2 f3 f4 f5 f6 f7 f8
     obtain ⟨b0,b1,b2,b3,b4,b5,b6,b7,b8⟩:=sob_cells B8
     obtain ⟨q0,q1,q2,q3,q4,q5,q6,q7,q8⟩:=sob_cells R8
     obtain ⟨f0,f1,f2,f3,f4,f5,f6,f7,f8⟩:=sob_free R8
     go_wp2
     refine bodyPost_ret (v:=.tuple #[.agg #[.slice A0 k0 D0,.slice (some ⟨g',0,none⟩) (m1+1) cp',.slice A2 k2 D2,.slice A3 k3 D3,.int .i64 y.s.rf,.int .i64 y.s.ff,.int .i64 y.s.ft,.int .i64 y.s.cf,.int .i64 y.s.ct],.int .i64 0]) (by simp [results,Tryz.results127,go_sem,q0,q1,q2,q3,q4,q5,q6,q7,q8]) rfl ?_
     have hlr:(y.s.ra++[(t,v)]).length=m1+1:=by rw [List.length_append,HZ.out];rfl
     have hbw:w.heap.size≤w3.heap.size:=by have:=HX.out;omega
     refine ⟨⟨{ y.s with ra:=y.s.ra++[(t,v)] },A0,D0,some ⟨g',0,none⟩,cp',A2,D2,A3,D3⟩,?_,?_,⟨?_,?_,?_,?_,one,ofits,on0,?_,on2,on3⟩,below_set9 bel8 (by omega) _ _ _ _ _ _ _ _ _⟩
     ·rw [HP3.out]
      simp only [ShT.v,hlr,← HD0.out,← HD2.out,← HD3.out]
     ·rw [HP3.out]
     ·simp only [← HD0.out];exact own_down (own_set9 c0 (by omega) _ _ _ _ _ _ _ _ _) hbw
     ·simp only [hlr];exact own_down (own_set9 c1 (by omega) _ _ _ _ _ _ _ _ _) hbw
     ·simp only [← HD2.out];exact own_down (own_set9 c2 (by omega) _ _ _ _ _ _ _ _ _) hbw
     ·simp only [← HD3.out];exact own_down (own_set9 c3 (by omega) _ _ _ _ _ _ _ _ _) hbw
     ·show (y.s.ra++[(t,v)]).length*16≤_;rw [hlr];omega
   ·have HP3:Hid (r=(Grain.szero,9)):=by show _=_;rw [HP2.out,if_pos hl]
    clear HP2 hl
    go_wp2
    exact bodyPost_ret (v:=.tuple #[.agg #[.slice none 0 0,.slice none 0 0,.slice none 0 0,.slice none 0 0,.int .i64 0,.int .i64 0,.int .i64 0,.int .i64 0,.int .i64 0],.int .i64 9]) (by simp [results,Tryz.results127,go_sem,q0,q1,q2,q3,q4,q5,q6,q7,q8]) rfl (shpost_no HP3.out (below_set9 bel4 (by omega) _ _ _ _ _ _ _ _ _))
 ·have n:=ne_beq z
  have HP1:Hid (r=(Grain.szero,E)):=by show _=_;rw [HP.out,if_pos z]
  clear HP z
  go_wp2
  exact bodyPost_ret (v:=.tuple #[.agg #[.slice none 0 0,.slice none 0 0,.slice none 0 0,.slice none 0 0,.int .i64 0,.int .i64 0,.int .i64 0,.int .i64 0,.int .i64 0],.int .i64 E]) (by simp [results,Tryz.results127,go_sem,q0,q1,q2,q3,q4,q5,q6,q7,q8]) rfl (shpost_no HP1.out (below_set9 bel1 (by omega) _ _ _ _ _ _ _ _ _))
open Go.RowKit Go.GrainU
theorem fg1_any (t v rf:Int) (B:Nat) (w:World) (hB:w.cell? ⟨B,4,none⟩=some (.int .i64 rf)) :
  Calls Tryz.prog 139 #[.agg #[.int .i64 t,.int .i64 v],.pointer (some ⟨B,0,none⟩)] w fun e w'=>e=.returned (.bool (decide (rf≤t)))∧Below w.heap.size w w':=by
 have hl:B<w.heap.size:=World.block_lt_of_cell? w _ hB
 have bel:Below w.heap.size w (w.alloc (.cells #[.int .i64 t,.int .i64 v] 34)):=(Below.refl _ _).alloc (Nat.le_refl _) _
 go_enter Tryz.func139,Tryz.ntmps139
 go_wp2
 go_ret
 exact ⟨rfl,bel⟩
theorem fg2_any (K:Grain.Bk) (f:Int) (B:Nat) (w:World) (hB:w.cell? ⟨B,5,none⟩=some (.int .i64 f)) :
  Calls Tryz.prog 140 #[kv K,.pointer (some ⟨B,0,none⟩)] w fun e w'=>e=.returned (.bool (decide (f≤K.a)))∧Below w.heap.size w w':=by
 have hl:B<w.heap.size:=World.block_lt_of_cell? w _ hB
 have bel:Below w.heap.size w (w.alloc (ko K)):=(Below.refl _ _).alloc (Nat.le_refl _) _
 unfold ko at bel
 unfold kv
 go_enter Tryz.func140,Tryz.ntmps140
 go_wp2
 go_ret
 exact ⟨rfl,bel⟩
theorem fg3_any (K:Grain.Bk) (f:Int) (B:Nat) (w:World) (hB:w.cell? ⟨B,7,none⟩=some (.int .i64 f)) :
  Calls Tryz.prog 141 #[kv K,.pointer (some ⟨B,0,none⟩)] w fun e w'=>e=.returned (.bool (decide (f≤K.a)))∧Below w.heap.size w w':=by
 have hl:B<w.heap.size:=World.block_lt_of_cell? w _ hB
 have bel:Below w.heap.size w (w.alloc (ko K)):=(Below.refl _ _).alloc (Nat.le_refl _) _
 unfold ko at bel
 unfold kv
 go_enter Tryz.func141,Tryz.ntmps141
 go_wp2
 go_ret
 exact ⟨rfl,bel⟩
theorem own_heap {w w':World} {base e size n:Nat} {v:Value} {xs:List Value} (hh:w'.heap=w.heap) (h:w.ownsRow base e size v n xs):w'.ownsRow base e size v n xs:=by
 obtain ⟨h1,h2⟩:=h
 refine ⟨h1,?_⟩
 rcases h2 with h2 | ⟨g,cap,cur,hv,hb,hg,rest⟩
 ·exact Or.inl h2
 ·exact Or.inr ⟨g,cap,cur,hv,hb,by rw [hh];exact hg,rest⟩
set_option maxHeartbeats 4000000 in
theorem sforg_any (x:ShT) (tier tt:Int) (w:World) (hx:ShIn w x) :
  Calls Tryz.prog 100 #[x.v,.int .i64 tier,.int .i64 tt] w (ShPost w (Grain.sforg x.s tier tt)):=by
 have HP:Hid (Grain.sforg x.s tier tt=if Grain.wrongAt x.s tt≠0 then (Grain.szero,Grain.wrongAt x.s tt) else if tier=0 then ({ x.s with rf:=Grain.nrf x.s tt,ra:=x.s.ra.filter fun y=>decide (Grain.nrf x.s tt≤y.1) },0)
   else if tier=1 then ({ x.s with ff:=Grain.nff x.s tt,fi:=x.s.fi.filter fun b=>decide (Grain.nff x.s tt≤b.a) },0) else if tier=2 then ({ x.s with cf:=Grain.ncf x.s tt,co:=x.s.co.filter fun b=>decide (Grain.ncf x.s tt≤b.a) },0) else (Grain.szero,1)):=rfl
 obtain ⟨r,hr⟩:∃ r,r=Grain.sforg x.s tier tt:=⟨_,rfl⟩
 rw [← hr] at HP ⊢
 clear hr
 have HSR:Hid (Grain.wrongAt x.s tt=0→Grain.SR x.s∧0≤tt∧tt≤1000000):=fun h=>Grain.wrongAt_zero h
 obtain ⟨m0,e0⟩:∃ m,m=x.s.se.length:=⟨_,rfl⟩
 obtain ⟨m1,e1⟩:∃ m,m=x.s.ra.length:=⟨_,rfl⟩
 obtain ⟨m2,e2⟩:∃ m,m=x.s.fi.length:=⟨_,rfl⟩
 obtain ⟨m3,e3⟩:∃ m,m=x.s.co.length:=⟨_,rfl⟩
 have Hv:Hid (x.v=.agg #[.slice x.a0 m0 x.c0,.slice x.a1 m1 x.c1,.slice x.a2 m2 x.c2,.slice x.a3 m3 x.c3,.int .i64 x.s.rf,.int .i64 x.s.ff,.int .i64 x.s.ft,.int .i64 x.s.cf,.int .i64 x.s.ct]):=by
  show _=_
  rw [e0,e1,e2,e3];rfl
 have H0:=hide e0
 have H1:=hide e1
 have H2:=hide e2
 have H3:=hide e3
 rw [Hv.out]
 clear e0 e1 e2 e3
 obtain ⟨X,hX⟩:∃ X,X=w.heap.size:=⟨_,rfl⟩
 obtain ⟨U,hU⟩:∃ U,U=w.alloc (.cells #[.slice x.a0 m0 x.c0,.slice x.a1 m1 x.c1,.slice x.a2 m2 x.c2,.slice x.a3 m3 x.c3,.int .i64 x.s.rf,.int .i64 x.s.ff,.int .i64 x.s.ft,.int .i64 x.s.cf,.int .i64 x.s.ct] 59):=⟨_,rfl⟩
 obtain ⟨V,hV⟩:∃ V,V=U.alloc (.cells #[.slice none 0 0,.slice none 0 0,.slice none 0 0,.slice none 0 0,.int .i64 0,.int .i64 0,.int .i64 0,.int .i64 0,.int .i64 0] 59):=⟨_,rfl⟩
 have hUs:U.heap.size=X+1:=by rw [hU,hX];simp
 have hVs:V.heap.size=X+2:=by rw [hV];simp [hUs]
 have bel:Below w.heap.size w V:=by rw [hV,hU];exact ((Below.refl _ _).alloc (Nat.le_refl _) _).alloc (by simp) _
 have B0:V.heap[X]?=some (sob (.slice x.a0 m0 x.c0) (.slice x.a1 m1 x.c1) (.slice x.a2 m2 x.c2) (.slice x.a3 m3 x.c3) (.int .i64 x.s.rf) (.int .i64 x.s.ff) (.int .i64 x.s.ft) (.int .i64 x.s.cf) (.int .i64 x.s.ct)):=by
  rw [hV,Below.heap_alloc _ _ _ (by omega),hU,hX];exact heap_alloc_new w _
 have R0:V.heap[X+1]?=some (sob (.slice none 0 0) (.slice none 0 0) (.slice none 0 0) (.slice none 0 0) (.int .i64 0) (.int .i64 0) (.int .i64 0) (.int .i64 0) (.int .i64 0)):=by
  rw [hV,← hUs];exact heap_alloc_new _ _
 have HV:Hid (V=(w.alloc (.cells #[.slice x.a0 m0 x.c0,.slice x.a1 m1 x.c1,.slice x.a2 m2 x.c2,.slice x.a3 m3 x.c3,.int .i64 x.s.rf,.int .i64 x.s.ff,.int .i64 x.s.ft,.int .i64 x.s.cf,.int .i64 x.s.ct] 59)).alloc (.cells #[.slice none 0 0,.slice none 0 0,.slice none 0 0,.slice none 0 0,.int .i64 0,.int .i64 0,.int .i64 0,.int .i64 0,.int .i64 0] 59)):=by rw [hV,hU];exact rfl
 have HX:=hide hX
 have hxV:=hx.below bel
 have HVs:=hide hVs
 clear hU hV hX hUs hVs
 go_enter Tryz.func100,Tryz.ntmps100
 go_wp2_with fail
 rw [← HV.out,← Hv.out,← HX.out]
 refine (wrongAt_any x tt V hxV).mono ?_
 rintro e w1 ⟨rfl,hb1⟩
 have bel1:Below w.heap.size w w1:=bel.trans (hb1.mono bel.size)
 have B1:=below_block hb1 B0
 have R1:=below_block hb1 R0
 have hx1:=hxV.below hb1
 have hs1:X+2≤w1.heap.size:=by have:=hb1.size;have:=HVs.out;omega
 clear HV hb1 B0 R0 hxV bel HVs
 obtain ⟨E,hE⟩:∃ E,E=Grain.wrongAt x.s tt:=⟨_,rfl⟩
 rw [← hE] at HP HSR ⊢
 clear hE
 by_cases z:E=0
 ·subst z
  have HP1:=hide (HP.out.trans (if_neg (by simp)))
  obtain ⟨sr,t0,t1⟩:=HSR.out rfl
  have SRx:=hide sr
  have rlen:=sr.rlen
  have flen:=sr.flen
  have clen:=sr.clen
  have hct0:0≤x.s.ct∧x.s.ct≤1000000:=by have:=sr.csp;omega
  clear HP HSR sr
  obtain ⟨b0,b1,b2,b3,b4,b5,b6,b7,b8⟩:=sob_cells B1
  go_wp2_with fail
  rw [← Hv.out]
  refine (cshelf_any x w1 hx1).mono ?_
  rintro e w2 ⟨z,rfl,hz,oz,hb2⟩
  have bel2:Below w.heap.size w w2:=bel1.trans (hb2.mono bel1.size)
  have B2:=below_block hb2 B1
  have R2:=below_block hb2 R1
  have hx2:=hx1.below hb2
  obtain ⟨zs,A0,D0,A1,D1,A2,D2,A3,D3⟩:=z
  simp only at hz
  subst hz
  obtain ⟨o0,o1,o2,o3,one,ofits,on0,on1,on2,on3⟩:=oz
  simp only at o0 o1 o2 o3 one ofits on0 on1 on2 on3
  simp only [ShT.v,← H0.out,← H1.out,← H2.out,← H3.out]
  rw [← H0.out] at o0 on0
  rw [← H1.out] at o1 on1
  rw [← H2.out] at o2 on2 one
  rw [← H3.out] at o3 on3 one
  rw [← H1.out] at rlen
  rw [← H2.out] at flen
  rw [← H3.out] at clen
  obtain ⟨Y,hY⟩:∃ Y,Y=w2.heap.size:=⟨_,rfl⟩
  obtain ⟨W2,hW2⟩:∃ W,W=w2.alloc (.cells #[.slice A0 m0 D0,.slice A1 m1 D1,.slice A2 m2 D2,.slice A3 m3 D3,.int .i64 x.s.rf,.int .i64 x.s.ff,.int .i64 x.s.ft,.int .i64 x.s.cf,.int .i64 x.s.ct] 59):=⟨_,rfl⟩
  have hbW:Below w2.heap.size w2 W2:=by rw [hW2];exact (Below.refl _ _).alloc (Nat.le_refl _) _
  have Y3:W2.heap[Y]?=some (sob (.slice A0 m0 D0) (.slice A1 m1 D1) (.slice A2 m2 D2) (.slice A3 m3 D3) (.int .i64 x.s.rf) (.int .i64 x.s.ff) (.int .i64 x.s.ft) (.int .i64 x.s.cf) (.int .i64 x.s.ct)):=by rw [hW2,hY];exact heap_alloc_new w2 _
  have B3:=below_block hbW B2
  have R3:=below_block hbW R2
  have hx3:=hx2.below hbW
  have bel3:Below w.heap.size w W2:=bel2.trans (hbW.mono bel2.size)
  have p0:=own_below o0 hbW
  have p1:=own_below o1 hbW
  have p2:=own_below o2 hbW
  have p3:=own_below o3 hbW
  have hYs:w1.heap.size≤Y:=by rw [hY];exact hb2.size
  have hYX:Y≠X:=by omega
  have hYR:Y≠X+1:=by omega
  have hYl:Y<W2.heap.size:=lt_of_block Y3
  have HW2:=hide hW2
  have HY:=hide hY
  have NE:=hide one
  clear hW2 hY o0 o1 o2 o3 hbW B2 R2 hb2 bel2 bel1 B1 R1 hx1 hx2 one b0 b1 b2 b3 b4 b5 b6 b7 b8
  go_upto_region 5 with fail
  rw [← HW2.out,← HY.out]
  clear HW2
  obtain ⟨b0,b1,b2,b3,b4,b5,b6,b7,b8⟩:=sob_cells B3
  obtain ⟨y0,y1,y2,y3,y4,y5,y6,y7,y8⟩:=sob_cells Y3
  obtain ⟨g0,g1,g2,g3,g4,g5,g6,g7,g8⟩:=sob_free Y3
  by_cases k0:tier=0
  ·subst k0
   have HP2:=hide (HP1.out.trans (if_pos rfl))
   clear HP1
   obtain ⟨N,hN⟩:∃ N,N=Grain.nrf x.s tt:=⟨_,rfl⟩
   rw [← hN] at HP2
   obtain ⟨M,hM⟩:∃ M,M=min tt x.s.ft:=⟨_,rfl⟩
   have eM:(if x.s.ft<tt then x.s.ft else tt)=M:=by rw [hM];split <;> omega
   have eN:(if x.s.rf<M then M else x.s.rf)=N:=by rw [hN,hM];unfold Grain.nrf;split <;> omega
   have HN:=hide eN
   have HM:=hide eM
   clear hN eN hM eM
   go_upto_region 9 with fail
   rw [HM.out,HN.out]
   obtain ⟨W3,hW3⟩:∃ W,W=W2.setCell ⟨Y,4,none⟩ (.int .i64 N):=⟨_,rfl⟩
   rw [← hW3]
   have hh3:W3.heap=(W2.setCell ⟨Y,4,none⟩ (.int .i64 N)).heap:=by rw [hW3]
   have bel4:Below w.heap.size w W3:=by rw [hW3];exact bel3.setCell (by have:=HX.out;show w.heap.size≤Y;omega) _
   clear hW3
   have Y4:W3.heap[Y]?=some (sob (.slice A0 m0 D0) (.slice A1 m1 D1) (.slice A2 m2 D2) (.slice A3 m3 D3) (.int .i64 N) (.int .i64 x.s.ff) (.int .i64 x.s.ft) (.int .i64 x.s.cf) (.int .i64 x.s.ct)):=by rw [hh3];exact set_block Y3 _
   have R4:W3.heap[X+1]?=some (sob (.slice none 0 0) (.slice none 0 0) (.slice none 0 0) (.slice none 0 0) (.int .i64 0) (.int .i64 0) (.int .i64 0) (.int .i64 0) (.int .i64 0)):=by rw [hh3,setCell_far (fun e=>hYR e.symm)];exact R3
   have B4:W3.heap[X]?=some (sob (.slice x.a0 m0 x.c0) (.slice x.a1 m1 x.c1) (.slice x.a2 m2 x.c2) (.slice x.a3 m3 x.c3) (.int .i64 x.s.rf) (.int .i64 x.s.ff) (.int .i64 x.s.ft) (.int .i64 x.s.cf) (.int .i64 x.s.ct)):=by rw [hh3,setCell_far (fun e=>hYX e.symm)];exact B3
   have o0:W3.ownsRow w1.heap.size 88 2 (.slice A0 m0 D0) m0 (lcells x.s.se):=own_heap hh3 (ownsRow_setCell_other p0 (own_far p0 Y3 (by decide)) _)
   have o1:W3.ownsRow w1.heap.size 34 2 (.slice A1 m1 D1) m1 (scells x.s.ra):=own_heap hh3 (ownsRow_setCell_other p1 (own_far p1 Y3 (by decide)) _)
   have o2:W3.ownsRow w1.heap.size 145 8 (.slice A2 m2 D2) m2 (kcells x.s.fi):=own_heap hh3 (ownsRow_setCell_other p2 (own_far p2 Y3 (by decide)) _)
   have o3:W3.ownsRow w1.heap.size 145 8 (.slice A3 m3 D3) m3 (kcells x.s.co):=own_heap hh3 (ownsRow_setCell_other p3 (own_far p3 Y3 (by decide)) _)
   have HL2:=hide o2.lt
   have HL3:=hide o3.lt
   have hs4:W3.heap.size=W2.heap.size:=by rw [hh3];simp
   have hx4:=hx.below bel4
   have hYs4:Y<W3.heap.size:=by omega
   clear hh3 Y3 R3 B3 p0 p1 p2 p3 hx3 bel3 b0 b1 b2 b3 b4 b5 b6 b7 b8 y0 y1 y2 y3 y4 y5 y6 y7 y8 g0 g1 g2 g3 g4 g5 g6 g7 g8
   obtain ⟨b0,b1,b2,b3,b4,b5,b6,b7,b8⟩:=sob_cells B4
   have hE:=hide (enters (P:=Tryz.prog) Tryz.func139 (by kernel_rfl) (by kernel_rfl))
   have HF:Hid (∀ W t v,Below W3.heap.size W3 W→Calls Tryz.prog 139 (#[.agg #[.int .i64 t,.int .i64 v]]++#[.pointer (some ⟨Y,0,none⟩)]) W fun e W'=>e=.returned (.bool (decide (N≤t)))∧Below W.heap.size W W'):=by
    intro W t v hb
    have:=fg1_any t v N Y W (sob_cells (below_block hb Y4)).2.2.2.2.1
    simpa using this
   go_wp2_with fail
   refine (skept_any x.s.ra (fun t _=>decide (N≤t)) 139 _ x.a1 m1 x.c1 W3 hx4.g1 H1.out (by omega) hE HF.out).mono ?_
   rintro e w4 ⟨co,Nk,d,rfl,own,hb4⟩
   have bel5:Below w.heap.size w w4:=bel4.trans (hb4.mono bel4.size)
   have Y5:=below_block hb4 Y4
   have R5:=below_block hb4 R4
   have q0:=own_below o0 hb4
   have q1:=own_below o1 hb4
   have q2:=own_below o2 hb4
   have q3:=own_below o3 hb4
   have hs5:=hb4.size
   clear hb4 Y4 R4 B4 o0 o1 o2 o3 HF hE b0 b1 b2 b3 b4 b5 b6 b7 b8 bel4 hx4
   obtain ⟨y0,y1,y2,y3,y4,y5,y6,y7,y8⟩:=sob_cells Y5
   obtain ⟨g0,g1,g2,g3,g4,g5,g6,g7,g8⟩:=sob_free Y5
   obtain ⟨W5,hW5⟩:∃ W,W=w4.setCell ⟨Y,1,none⟩ (.slice co Nk d):=⟨_,rfl⟩
   have Y6:W5.heap[Y]?=some (sob (.slice A0 m0 D0) (.slice co Nk d) (.slice A2 m2 D2) (.slice A3 m3 D3) (.int .i64 N) (.int .i64 x.s.ff) (.int .i64 x.s.ft) (.int .i64 x.s.cf) (.int .i64 x.s.ct)):=by rw [hW5];exact set_block Y5 _
   have R6:W5.heap[X+1]?=some (sob (.slice none 0 0) (.slice none 0 0) (.slice none 0 0) (.slice none 0 0) (.int .i64 0) (.int .i64 0) (.int .i64 0) (.int .i64 0) (.int .i64 0)):=by rw [hW5,setCell_far (fun e=>hYR e.symm)];exact R5
   have bel6:Below w.heap.size w W5:=by rw [hW5];exact bel5.setCell (by have:=HX.out;show w.heap.size≤Y;omega) _
   have c0:W5.ownsRow w1.heap.size 88 2 (.slice A0 m0 D0) m0 (lcells x.s.se):=by rw [hW5];exact ownsRow_setCell_other q0 (own_far q0 Y5 (by decide)) _
   have c1:W5.ownsRow W3.heap.size 34 2 (.slice co Nk d) Nk (scells (x.s.ra.filter fun y=>decide (N≤y.1))):=by rw [hW5];exact ownsRow_setCell_other own (own_far own Y5 (by decide)) _
   have c2:W5.ownsRow w1.heap.size 145 8 (.slice A2 m2 D2) m2 (kcells x.s.fi):=by rw [hW5];exact ownsRow_setCell_other q2 (own_far q2 Y5 (by decide)) _
   have c3:W5.ownsRow w1.heap.size 145 8 (.slice A3 m3 D3) m3 (kcells x.s.co):=by rw [hW5];exact ownsRow_setCell_other q3 (own_far q3 Y5 (by decide)) _
   have NN:=NE
   have HW5:=hide hW5
   clear hW5 Y5 R5 bel5 own q0 q1 q2 q3
   go_upto_region 16 with fail
   rw [← HW5.out]
   clear HW5 y0 y1 y2 y3 y4 y5 y6 y7 y8 g0 g1 g2 g3 g4 g5 g6 g7 g8
   obtain ⟨b0,b1,b2,b3,b4,b5,b6,b7,b8⟩:=sob_cells Y6
   obtain ⟨q0,q1,q2,q3,q4,q5,q6,q7,q8⟩:=sob_cells R6
   obtain ⟨f0,f1,f2,f3,f4,f5,f6,f7,f8⟩:=sob_free R6
   go_wp2
   refine bodyPost_ret (v:=.tuple #[.agg #[.slice A0 m0 D0,.slice co Nk d,.slice A2 m2 D2,.slice A3 m3 D3,.int .i64 N,.int .i64 x.s.ff,.int .i64 x.s.ft,.int .i64 x.s.cf,.int .i64 x.s.ct],.int .i64 0]) (by simp [results,Tryz.results100,go_sem,q0,q1,q2,q3,q4,q5,q6,q7,q8]) rfl ?_
   have hlr:Nk=(x.s.ra.filter fun y=>decide (N≤y.1)).length:=own_slen c1
   have hfl:(x.s.ra.filter fun y=>decide (N≤y.1)).length≤m1:=by rw [H1.out];exact List.length_filter_le _ _
   have hbw:w.heap.size≤w1.heap.size:=by have:=HX.out;omega
   have hbw3:w.heap.size≤W3.heap.size:=by have:=HX.out;omega
   refine ⟨⟨{ x.s with rf:=N,ra:=x.s.ra.filter fun y=>decide (N≤y.1) },A0,D0,co,d,A2,D2,A3,D3⟩,?_,?_,⟨?_,?_,?_,?_,?_,ofits,?_,?_,?_,?_⟩,below_set9 bel6 (by have:=HX.out;omega) _ _ _ _ _ _ _ _ _⟩
   ·rw [HP2.out]
    simp only [ShT.v,← hlr,← H0.out,← H2.out,← H3.out]
   ·rw [HP2.out]
   ·simp only [← H0.out];exact own_down (own_set9 c0 (by omega) _ _ _ _ _ _ _ _ _) hbw
   ·simp only [← hlr];exact own_down (own_set9 c1 (by omega) _ _ _ _ _ _ _ _ _) hbw3
   ·simp only [← H2.out];exact own_down (own_set9 c2 (by omega) _ _ _ _ _ _ _ _ _) hbw
   ·simp only [← H3.out];exact own_down (own_set9 c3 (by omega) _ _ _ _ _ _ _ _ _) hbw
   ·simp only [← H2.out,← H3.out];exact NN.out
   ·show x.s.se.length*32≤_;rw [← H0.out];exact on0
   ·show (x.s.ra.filter fun y=>decide (N≤y.1)).length*16≤_;omega
   ·show x.s.fi.length*64≤_;rw [← H2.out];exact on2
   ·show x.s.co.length*64≤_;rw [← H3.out];exact on3
  ·by_cases k1:tier=1
   ·subst k1
    have HP2:=hide (HP1.out.trans ((if_neg (by decide)).trans (if_pos rfl)))
    clear HP1
    obtain ⟨N,hN⟩:∃ N,N=Grain.nff x.s tt:=⟨_,rfl⟩
    rw [← hN] at HP2
    obtain ⟨M,hM⟩:∃ M,M=min tt x.s.ct:=⟨_,rfl⟩
    have hM0:0≤M:=by omega
    have hM1:M≤1000000:=by omega
    have eM:(if x.s.ct<tt then x.s.ct else tt)=M:=by rw [hM];split <;> omega
    have eN:(if x.s.ff<Grain.beg M 10 then Grain.beg M 10 else x.s.ff)=N:=by rw [hN,hM];unfold Grain.nff;split <;> omega
    have HN:=hide eN
    have HM:=hide eM
    have BB:Hid (∀ (W:World) (u:Value),Below w.heap.size w W→Below w.heap.size w (W.setCell ⟨Y,5,none⟩ u)):=fun W u h=>h.setCell (by have:=HX.out;show w.heap.size≤Y;omega) u
    clear hN eN hM eM
    go_upto_region 11 with fail
    go_cut [] from 38 to 46 (fun wx=>wx.heap=(W2.setCell ⟨Y,5,none⟩ (.int .i64 N)).heap∧Below w.heap.size w wx)
    case first =>
     go_region_held3 (fun w'=>w'.cell? ⟨X,5,none⟩=some (.int .i64 x.s.ff)∧w'.cell? ⟨X,8,none⟩=some (.int .i64 x.s.ct)) (first | go_keep | exact ⟨by assumption,by assumption⟩)
      (first | (go_at_call 132;rw [HM.out];refine (mult_any M 10 _ hM0 hM1 (.inl rfl)).mono ?_;intro e w9 hh;rw [hh.1,hh.2];clear hh))
     all_goals
      go_wp2_with fail
      all_goals
       go_meet
       have e:=HN.out
       refine ⟨?_,by first | exact below_drewN (BB.out _ _ bel3) 1 | exact BB.out _ _ (below_drewN bel3 1)⟩
       first | (rw [if_pos (by assumption)] at e;rw [← e];rfl) | (rw [if_neg (by omega)] at e;rw [← e];rfl) | (rw [← e];rfl)
    case rest =>
    obtain ⟨hh3,bel4⟩:=hcut
    obtain ⟨W3,hW3⟩:∃ W,W=wc:=⟨_,rfl⟩
    rw [← hW3] at hh3 bel4 ⊢
    clear hW3 BB HM hM0 hM1
    have Y4:W3.heap[Y]?=some (sob (.slice A0 m0 D0) (.slice A1 m1 D1) (.slice A2 m2 D2) (.slice A3 m3 D3) (.int .i64 x.s.rf) (.int .i64 N) (.int .i64 x.s.ft) (.int .i64 x.s.cf) (.int .i64 x.s.ct)):=by rw [hh3];exact set_block Y3 _
    have R4:W3.heap[X+1]?=some (sob (.slice none 0 0) (.slice none 0 0) (.slice none 0 0) (.slice none 0 0) (.int .i64 0) (.int .i64 0) (.int .i64 0) (.int .i64 0) (.int .i64 0)):=by rw [hh3,setCell_far (fun e=>hYR e.symm)];exact R3
    have B4:W3.heap[X]?=some (sob (.slice x.a0 m0 x.c0) (.slice x.a1 m1 x.c1) (.slice x.a2 m2 x.c2) (.slice x.a3 m3 x.c3) (.int .i64 x.s.rf) (.int .i64 x.s.ff) (.int .i64 x.s.ft) (.int .i64 x.s.cf) (.int .i64 x.s.ct)):=by rw [hh3,setCell_far (fun e=>hYX e.symm)];exact B3
    have o0:W3.ownsRow w1.heap.size 88 2 (.slice A0 m0 D0) m0 (lcells x.s.se):=own_heap hh3 (ownsRow_setCell_other p0 (own_far p0 Y3 (by decide)) _)
    have o1:W3.ownsRow w1.heap.size 34 2 (.slice A1 m1 D1) m1 (scells x.s.ra):=own_heap hh3 (ownsRow_setCell_other p1 (own_far p1 Y3 (by decide)) _)
    have o2:W3.ownsRow w1.heap.size 145 8 (.slice A2 m2 D2) m2 (kcells x.s.fi):=own_heap hh3 (ownsRow_setCell_other p2 (own_far p2 Y3 (by decide)) _)
    have o3:W3.ownsRow w1.heap.size 145 8 (.slice A3 m3 D3) m3 (kcells x.s.co):=own_heap hh3 (ownsRow_setCell_other p3 (own_far p3 Y3 (by decide)) _)
    have HL2:=hide o2.lt
    have HL3:=hide o3.lt
    have hs4:W3.heap.size=W2.heap.size:=by rw [hh3];simp
    have hx4:=hx.below bel4
    have hYs4:Y<W3.heap.size:=by omega
    clear hh3 Y3 R3 B3 p0 p1 p2 p3 hx3 bel3 b0 b1 b2 b3 b4 b5 b6 b7 b8 y0 y1 y2 y3 y4 y5 y6 y7 y8 g0 g1 g2 g3 g4 g5 g6 g7 g8
    obtain ⟨b0,b1,b2,b3,b4,b5,b6,b7,b8⟩:=sob_cells B4
    have hE:=hide (enters (P:=Tryz.prog) Tryz.func140 (by kernel_rfl) (by kernel_rfl))
    have HF:Hid (∀ W K,Below W3.heap.size W3 W→Calls Tryz.prog 140 (#[kv K]++#[.pointer (some ⟨Y,0,none⟩)]) W fun e W'=>e=.returned (.bool (decide (N≤K.a)))∧Below W.heap.size W W'):=by
     intro W K hb
     have:=fg2_any K N Y W (sob_cells (below_block hb Y4)).2.2.2.2.2.1
     simpa using this
    go_wp2_with fail
    refine (kkept_any x.s.fi (fun K=>decide (N≤K.a)) 140 _ x.a2 m2 x.c2 W3 hx4.g2 H2.out (by omega) hE HF.out).mono ?_
    rintro e w4 ⟨co,Nk,d,rfl,own,hb4⟩
    have bel5:Below w.heap.size w w4:=bel4.trans (hb4.mono bel4.size)
    have Y5:=below_block hb4 Y4
    have R5:=below_block hb4 R4
    have q0:=own_below o0 hb4
    have q1:=own_below o1 hb4
    have q2:=own_below o2 hb4
    have q3:=own_below o3 hb4
    have hs5:=hb4.size
    clear hb4 Y4 R4 B4 o0 o1 o2 o3 HF hE b0 b1 b2 b3 b4 b5 b6 b7 b8 bel4 hx4
    obtain ⟨y0,y1,y2,y3,y4,y5,y6,y7,y8⟩:=sob_cells Y5
    obtain ⟨g0,g1,g2,g3,g4,g5,g6,g7,g8⟩:=sob_free Y5
    obtain ⟨W5,hW5⟩:∃ W,W=w4.setCell ⟨Y,2,none⟩ (.slice co Nk d):=⟨_,rfl⟩
    have Y6:W5.heap[Y]?=some (sob (.slice A0 m0 D0) (.slice A1 m1 D1) (.slice co Nk d) (.slice A3 m3 D3) (.int .i64 x.s.rf) (.int .i64 N) (.int .i64 x.s.ft) (.int .i64 x.s.cf) (.int .i64 x.s.ct)):=by rw [hW5];exact set_block Y5 _
    have R6:W5.heap[X+1]?=some (sob (.slice none 0 0) (.slice none 0 0) (.slice none 0 0) (.slice none 0 0) (.int .i64 0) (.int .i64 0) (.int .i64 0) (.int .i64 0) (.int .i64 0)):=by rw [hW5,setCell_far (fun e=>hYR e.symm)];exact R5
    have bel6:Below w.heap.size w W5:=by rw [hW5];exact bel5.setCell (by have:=HX.out;show w.heap.size≤Y;omega) _
    have c0:W5.ownsRow w1.heap.size 88 2 (.slice A0 m0 D0) m0 (lcells x.s.se):=by rw [hW5];exact ownsRow_setCell_other q0 (own_far q0 Y5 (by decide)) _
    have c1:W5.ownsRow w1.heap.size 34 2 (.slice A1 m1 D1) m1 (scells x.s.ra):=by rw [hW5];exact ownsRow_setCell_other q1 (own_far q1 Y5 (by decide)) _
    have c2:W5.ownsRow W3.heap.size 145 8 (.slice co Nk d) Nk (kcells (x.s.fi.filter fun b=>decide (N≤b.a))):=by rw [hW5];exact ownsRow_setCell_other own (own_far own Y5 (by decide)) _
    have c3:W5.ownsRow w1.heap.size 145 8 (.slice A3 m3 D3) m3 (kcells x.s.co):=by rw [hW5];exact ownsRow_setCell_other q3 (own_far q3 Y5 (by decide)) _
    have HLO:=hide own.lt
    have HW5:=hide hW5
    clear hW5 Y5 R5 bel5 own q0 q1 q2 q3
    go_upto_region 16 with fail
    rw [← HW5.out]
    clear HW5 y0 y1 y2 y3 y4 y5 y6 y7 y8 g0 g1 g2 g3 g4 g5 g6 g7 g8
    obtain ⟨b0,b1,b2,b3,b4,b5,b6,b7,b8⟩:=sob_cells Y6
    obtain ⟨q0,q1,q2,q3,q4,q5,q6,q7,q8⟩:=sob_cells R6
    obtain ⟨f0,f1,f2,f3,f4,f5,f6,f7,f8⟩:=sob_free R6
    go_wp2
    refine bodyPost_ret (v:=.tuple #[.agg #[.slice A0 m0 D0,.slice A1 m1 D1,.slice co Nk d,.slice A3 m3 D3,.int .i64 x.s.rf,.int .i64 N,.int .i64 x.s.ft,.int .i64 x.s.cf,.int .i64 x.s.ct],.int .i64 0]) (by simp [results,Tryz.results100,go_sem,q0,q1,q2,q3,q4,q5,q6,q7,q8]) rfl ?_
    have hlr:Nk=(x.s.fi.filter fun b=>decide (N≤b.a)).length:=own_klen c2
    have hfl:(x.s.fi.filter fun b=>decide (N≤b.a)).length≤m2:=by rw [H2.out];exact List.length_filter_le _ _
    have hbw:w.heap.size≤w1.heap.size:=by have:=HX.out;omega
    have hbw3:w.heap.size≤W3.heap.size:=by have:=HX.out;omega
    refine ⟨⟨{ x.s with ff:=N,fi:=x.s.fi.filter fun b=>decide (N≤b.a) },A0,D0,A1,D1,co,d,A3,D3⟩,?_,?_,⟨?_,?_,?_,?_,?_,ofits,?_,?_,?_,?_⟩,below_set9 bel6 (by have:=HX.out;omega) _ _ _ _ _ _ _ _ _⟩
    ·rw [HP2.out]
     simp only [ShT.v,← hlr,← H0.out,← H1.out,← H3.out]
    ·rw [HP2.out]
    ·simp only [← H0.out];exact own_down (own_set9 c0 (by omega) _ _ _ _ _ _ _ _ _) hbw
    ·simp only [← H1.out];exact own_down (own_set9 c1 (by omega) _ _ _ _ _ _ _ _ _) hbw
    ·simp only [← hlr];exact own_down (own_set9 c2 (by omega) _ _ _ _ _ _ _ _ _) hbw3
    ·simp only [← H3.out];exact own_down (own_set9 c3 (by omega) _ _ _ _ _ _ _ _ _) hbw
    ·simp only [← hlr,← H3.out];intro g hg e;have h1:=(HLO.out g hg).1;have h2:=(HL3.out g e).2;omega
    ·show x.s.se.length*32≤_;rw [← H0.out];exact on0
    ·show x.s.ra.length*16≤_;rw [← H1.out];exact on1
    ·show (x.s.fi.filter fun b=>decide (N≤b.a)).length*64≤_;omega
    ·show x.s.co.length*64≤_;rw [← H3.out];exact on3
   ·by_cases k2:tier=2
    ·subst k2
     have HP2:=hide (HP1.out.trans ((if_neg (by decide)).trans ((if_neg (by decide)).trans (if_pos rfl))))
     clear HP1
     obtain ⟨N,hN⟩:∃ N,N=Grain.ncf x.s tt:=⟨_,rfl⟩
     rw [← hN] at HP2
     obtain ⟨M,hM⟩:∃ M,M=min tt x.s.ct:=⟨_,rfl⟩
     have hM0:0≤M:=by omega
     have hM1:M≤1000000:=by omega
     have eM:(if x.s.ct<tt then x.s.ct else tt)=M:=by rw [hM];split <;> omega
     have eN:(if x.s.cf<Grain.beg M 60 then Grain.beg M 60 else x.s.cf)=N:=by rw [hN,hM];unfold Grain.ncf;split <;> omega
     have HN:=hide eN
     have HM:=hide eM
     have BB:Hid (∀ (W:World) (u:Value),Below w.heap.size w W→Below w.heap.size w (W.setCell ⟨Y,7,none⟩ u)):=fun W u h=>h.setCell (by have:=HX.out;show w.heap.size≤Y;omega) u
     clear hN eN hM eM
     go_upto_region 14 with fail
     go_cut [] from 54 to 62 (fun wx=>wx.heap=(W2.setCell ⟨Y,7,none⟩ (.int .i64 N)).heap∧Below w.heap.size w wx)
     case first =>
      go_region_held3 (fun w'=>w'.cell? ⟨X,7,none⟩=some (.int .i64 x.s.cf)∧w'.cell? ⟨X,8,none⟩=some (.int .i64 x.s.ct)) (first | go_keep | exact ⟨by assumption,by assumption⟩)
       (first | (go_at_call 132;rw [HM.out];refine (mult_any M 60 _ hM0 hM1 (.inr rfl)).mono ?_;intro e w9 hh;rw [hh.1,hh.2];clear hh))
      all_goals
       go_wp2_with fail
       all_goals
        go_meet
        have e:=HN.out
        refine ⟨?_,by first | exact below_drewN (BB.out _ _ bel3) 1 | exact BB.out _ _ (below_drewN bel3 1)⟩
        first | (rw [if_pos (by assumption)] at e;rw [← e];rfl) | (rw [if_neg (by omega)] at e;rw [← e];rfl) | (rw [← e];rfl)
     case rest =>
     obtain ⟨hh3,bel4⟩:=hcut
     obtain ⟨W3,hW3⟩:∃ W,W=wc:=⟨_,rfl⟩
     rw [← hW3] at hh3 bel4 ⊢
     clear hW3 BB HM hM0 hM1
     have Y4:W3.heap[Y]?=some (sob (.slice A0 m0 D0) (.slice A1 m1 D1) (.slice A2 m2 D2) (.slice A3 m3 D3) (.int .i64 x.s.rf) (.int .i64 x.s.ff) (.int .i64 x.s.ft) (.int .i64 N) (.int .i64 x.s.ct)):=by rw [hh3];exact set_block Y3 _
     have R4:W3.heap[X+1]?=some (sob (.slice none 0 0) (.slice none 0 0) (.slice none 0 0) (.slice none 0 0) (.int .i64 0) (.int .i64 0) (.int .i64 0) (.int .i64 0) (.int .i64 0)):=by rw [hh3,setCell_far (fun e=>hYR e.symm)];exact R3
     have B4:W3.heap[X]?=some (sob (.slice x.a0 m0 x.c0) (.slice x.a1 m1 x.c1) (.slice x.a2 m2 x.c2) (.slice x.a3 m3 x.c3) (.int .i64 x.s.rf) (.int .i64 x.s.ff) (.int .i64 x.s.ft) (.int .i64 x.s.cf) (.int .i64 x.s.ct)):=by rw [hh3,setCell_far (fun e=>hYX e.symm)];exact B3
     have o0:W3.ownsRow w1.heap.size 88 2 (.slice A0 m0 D0) m0 (lcells x.s.se):=own_heap hh3 (ownsRow_setCell_other p0 (own_far p0 Y3 (by decide)) _)
     have o1:W3.ownsRow w1.heap.size 34 2 (.slice A1 m1 D1) m1 (scells x.s.ra):=own_heap hh3 (ownsRow_setCell_other p1 (own_far p1 Y3 (by decide)) _)
     have o2:W3.ownsRow w1.heap.size 145 8 (.slice A2 m2 D2) m2 (kcells x.s.fi):=own_heap hh3 (ownsRow_setCell_other p2 (own_far p2 Y3 (by decide)) _)
     have o3:W3.ownsRow w1.heap.size 145 8 (.slice A3 m3 D3) m3 (kcells x.s.co):=own_heap hh3 (ownsRow_setCell_other p3 (own_far p3 Y3 (by decide)) _)
     have HL2:=hide o2.lt
     have HL3:=hide o3.lt
     have hs4:W3.heap.size=W2.heap.size:=by rw [hh3];simp
     have hx4:=hx.below bel4
     have hYs4:Y<W3.heap.size:=by omega
     clear hh3 Y3 R3 B3 p0 p1 p2 p3 hx3 bel3 b0 b1 b2 b3 b4 b5 b6 b7 b8 y0 y1 y2 y3 y4 y5 y6 y7 y8 g0 g1 g2 g3 g4 g5 g6 g7 g8
     obtain ⟨b0,b1,b2,b3,b4,b5,b6,b7,b8⟩:=sob_cells B4
     have hE:=hide (enters (P:=Tryz.prog) Tryz.func141 (by kernel_rfl) (by kernel_rfl))
     have HF:Hid (∀ W K,Below W3.heap.size W3 W→Calls Tryz.prog 141 (#[kv K]++#[.pointer (some ⟨Y,0,none⟩)]) W fun e W'=>e=.returned (.bool (decide (N≤K.a)))∧Below W.heap.size W W'):=by
      intro W K hb
      have:=fg3_any K N Y W (sob_cells (below_block hb Y4)).2.2.2.2.2.2.2.1
      simpa using this
     go_wp2_with fail
     refine (kkept_any x.s.co (fun K=>decide (N≤K.a)) 141 _ x.a3 m3 x.c3 W3 hx4.g3 H3.out (by omega) hE HF.out).mono ?_
     rintro e w4 ⟨co,Nk,d,rfl,own,hb4⟩
     have bel5:Below w.heap.size w w4:=bel4.trans (hb4.mono bel4.size)
     have Y5:=below_block hb4 Y4
     have R5:=below_block hb4 R4
     have q0:=own_below o0 hb4
     have q1:=own_below o1 hb4
     have q2:=own_below o2 hb4
     have q3:=own_below o3 hb4
     have hs5:=hb4.size
     clear hb4 Y4 R4 B4 o0 o1 o2 o3 HF hE b0 b1 b2 b3 b4 b5 b6 b7 b8 bel4 hx4
     obtain ⟨y0,y1,y2,y3,y4,y5,y6,y7,y8⟩:=sob_cells Y5
     obtain ⟨g0,g1,g2,g3,g4,g5,g6,g7,g8⟩:=sob_free Y5
     obtain ⟨W5,hW5⟩:∃ W,W=w4.setCell ⟨Y,3,none⟩ (.slice co Nk d):=⟨_,rfl⟩
     have Y6:W5.heap[Y]?=some (sob (.slice A0 m0 D0) (.slice A1 m1 D1) (.slice A2 m2 D2) (.slice co Nk d) (.int .i64 x.s.rf) (.int .i64 x.s.ff) (.int .i64 x.s.ft) (.int .i64 N) (.int .i64 x.s.ct)):=by rw [hW5];exact set_block Y5 _
     have R6:W5.heap[X+1]?=some (sob (.slice none 0 0) (.slice none 0 0) (.slice none 0 0) (.slice none 0 0) (.int .i64 0) (.int .i64 0) (.int .i64 0) (.int .i64 0) (.int .i64 0)):=by rw [hW5,setCell_far (fun e=>hYR e.symm)];exact R5
     have bel6:Below w.heap.size w W5:=by rw [hW5];exact bel5.setCell (by have:=HX.out;show w.heap.size≤Y;omega) _
     have c0:W5.ownsRow w1.heap.size 88 2 (.slice A0 m0 D0) m0 (lcells x.s.se):=by rw [hW5];exact ownsRow_setCell_other q0 (own_far q0 Y5 (by decide)) _
     have c1:W5.ownsRow w1.heap.size 34 2 (.slice A1 m1 D1) m1 (scells x.s.ra):=by rw [hW5];exact ownsRow_setCell_other q1 (own_far q1 Y5 (by decide)) _
     have c2:W5.ownsRow w1.heap.size 145 8 (.slice A2 m2 D2) m2 (kcells x.s.fi):=by rw [hW5];exact ownsRow_setCell_other q2 (own_far q2 Y5 (by decide)) _
     have c3:W5.ownsRow W3.heap.size 145 8 (.slice co Nk d) Nk (kcells (x.s.co.filter fun b=>decide (N≤b.a))):=by rw [hW5];exact ownsRow_setCell_other own (own_far own Y5 (by decide)) _
     have HLO:=hide own.lt
     have HW5:=hide hW5
     clear hW5 Y5 R5 bel5 own q0 q1 q2 q3
     go_upto_region 16 with fail
     rw [← HW5.out]
     clear HW5 y0 y1 y2 y3 y4 y5 y6 y7 y8 g0 g1 g2 g3 g4 g5 g6 g7 g8
     obtain ⟨b0,b1,b2,b3,b4,b5,b6,b7,b8⟩:=sob_cells Y6
     obtain ⟨q0,q1,q2,q3,q4,q5,q6,q7,q8⟩:=sob_cells R6
     obtain ⟨f0,f1,f2,f3,f4,f5,f6,f7,f8⟩:=sob_free R6
     go_wp2
     refine bodyPost_ret (v:=.tuple #[.agg #[.slice A0 m0 D0,.slice A1 m1 D1,.slice A2 m2 D2,.slice co Nk d,.int .i64 x.s.rf,.int .i64 x.s.ff,.int .i64 x.s.ft,.int .i64 N,.int .i64 x.s.ct],.int .i64 0]) (by simp [results,Tryz.results100,go_sem,q0,q1,q2,q3,q4,q5,q6,q7,q8]) rfl ?_
     have hlr:Nk=(x.s.co.filter fun b=>decide (N≤b.a)).length:=own_klen c3
     have hfl:(x.s.co.filter fun b=>decide (N≤b.a)).length≤m3:=by rw [H3.out];exact List.length_filter_le _ _
     have hbw:w.heap.size≤w1.heap.size:=by have:=HX.out;omega
     have hbw3:w.heap.size≤W3.heap.size:=by have:=HX.out;omega
     refine ⟨⟨{ x.s with cf:=N,co:=x.s.co.filter fun b=>decide (N≤b.a) },A0,D0,A1,D1,A2,D2,co,d⟩,?_,?_,⟨?_,?_,?_,?_,?_,ofits,?_,?_,?_,?_⟩,below_set9 bel6 (by have:=HX.out;omega) _ _ _ _ _ _ _ _ _⟩
     ·rw [HP2.out]
      simp only [ShT.v,← hlr,← H0.out,← H1.out,← H2.out]
     ·rw [HP2.out]
     ·simp only [← H0.out];exact own_down (own_set9 c0 (by omega) _ _ _ _ _ _ _ _ _) hbw
     ·simp only [← H1.out];exact own_down (own_set9 c1 (by omega) _ _ _ _ _ _ _ _ _) hbw
     ·simp only [← H2.out];exact own_down (own_set9 c2 (by omega) _ _ _ _ _ _ _ _ _) hbw
     ·simp only [← hlr];exact own_down (own_set9 c3 (by omega) _ _ _ _ _ _ _ _ _) hbw3
     ·simp only [← hlr,← H2.out];intro g hg e;have h1:=(HLO.out g e).1;have h2:=(HL2.out g hg).2;omega
     ·show x.s.se.length*32≤_;rw [← H0.out];exact on0
     ·show x.s.ra.length*16≤_;rw [← H1.out];exact on1
     ·show x.s.fi.length*64≤_;rw [← H2.out];exact on2
     ·show (x.s.co.filter fun b=>decide (N≤b.a)).length*64≤_;omega
    ·have HP2:=hide (HP1.out.trans ((if_neg k0).trans ((if_neg k1).trans (if_neg k2))))
     have n0:=ne_beq k0
     have n1:(tier == 1)=false:=by simpa using k1
     have n2:(tier == 2)=false:=by simpa using k2
     clear HP1 k0 k1 k2 y0 y1 y2 y3 y4 y5 y6 y7 y8 g0 g1 g2 g3 g4 g5 g6 g7 g8
     obtain ⟨q0,q1,q2,q3,q4,q5,q6,q7,q8⟩:=sob_cells R3
     obtain ⟨f0,f1,f2,f3,f4,f5,f6,f7,f8⟩:=sob_free R3
     go_wp2
     exact bodyPost_ret (v:=.tuple #[.agg #[.slice none 0 0,.slice none 0 0,.slice none 0 0,.slice none 0 0,.int .i64 0,.int .i64 0,.int .i64 0,.int .i64 0,.int .i64 0],.int .i64 1]) (by simp [results,Tryz.results100,go_sem,q0,q1,q2,q3,q4,q5,q6,q7,q8]) rfl (shpost_no HP2.out (below_set9 bel3 (by have:=HX.out;omega) _ _ _ _ _ _ _ _ _))
 ·have n:=ne_beq z
  have HP1:Hid (r=(Grain.szero,E)):=by show _=_;rw [HP.out,if_pos z]
  clear HP z HSR
  obtain ⟨q0,q1,q2,q3,q4,q5,q6,q7,q8⟩:=sob_cells R1
  obtain ⟨f0,f1,f2,f3,f4,f5,f6,f7,f8⟩:=sob_free R1
  go_wp2
  exact bodyPost_ret (v:=.tuple #[.agg #[.slice none 0 0,.slice none 0 0,.slice none 0 0,.slice none 0 0,.int .i64 0,.int .i64 0,.int .i64 0,.int .i64 0,.int .i64 0],.int .i64 E]) (by simp [results,Tryz.results100,go_sem,q0,q1,q2,q3,q4,q5,q6,q7,q8]) rfl (shpost_no HP1.out (below_set9 bel1 (by have:=HX.out;omega) _ _ _ _ _ _ _ _ _))
end Go.Proofs.YtoldmigappbjcaaGreatDoor
