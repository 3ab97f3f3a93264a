import Derived.Test.YtoldmigappbjcaaGreatDoorK01
import Derived.Test.YtoldmigappbjcaaGreatDoorK15
import Derived.Test.YtoldmigappbjcaaGreatDoorK16
import Derived.Test.YtoldmigappbjcaaGreatDoorK17
import Derived.Test.YtoldmigappbjcaaGreatDoorK18
namespace Go.GrainU
open Go.RowKit
theorem within_bk (B:List Grain.Bk) (f t:Int):(!B.any fun b=>(decide (b.a<f) || decide (t≤b.a)))=Grain.within B f t:=by
 unfold Grain.within
 induction B with
 | nil=>rfl
 | cons b r ih =>
  rw [List.any_cons,List.all_cons,Bool.not_or,ih]
  congr 1
  rw [Bool.eq_iff_iff]
  simp
theorem raw_any (l:List (Int×Int)) (f:Int):(!l.any fun x=>decide (x.1<f))=l.all fun x=>decide (f≤x.1):=by
 induction l with
 | nil=>rfl
 | cons b r ih =>
  rw [List.any_cons,List.all_cons,Bool.not_or,ih]
  congr 1
  rw [Bool.eq_iff_iff]
  simp
end Go.GrainU
namespace Go.Proofs.YtoldmigappbjcaaGreatDoor
open Go.RowKit Go.GrainU
def so (x:ShT):Obj:=.cells #[.slice x.a0 x.s.se.length x.c0,.slice x.a1 x.s.ra.length x.c1,.slice x.a2 x.s.fi.length x.c2,.slice x.a3 x.s.co.length x.c3,.int .i64 x.s.rf,.int .i64 x.s.ff,.int .i64 x.s.ft,.int .i64 x.s.cf,.int .i64 x.s.ct] 59
def At9 (w:World) (B:Nat) (x:ShT):Prop :=
 w.cell? ⟨B,0,none⟩=some (.slice x.a0 x.s.se.length x.c0)∧w.cell? ⟨B,1,none⟩=some (.slice x.a1 x.s.ra.length x.c1)∧w.cell? ⟨B,2,none⟩=some (.slice x.a2 x.s.fi.length x.c2)∧w.cell? ⟨B,3,none⟩=some (.slice x.a3 x.s.co.length x.c3) ∧
 w.cell? ⟨B,4,none⟩=some (.int .i64 x.s.rf)∧w.cell? ⟨B,5,none⟩=some (.int .i64 x.s.ff)∧w.cell? ⟨B,6,none⟩=some (.int .i64 x.s.ft)∧w.cell? ⟨B,7,none⟩=some (.int .i64 x.s.cf)∧w.cell? ⟨B,8,none⟩=some (.int .i64 x.s.ct)
theorem nine_cells {w:World} {B:Nat} {x:ShT} (h:w.heap[B]?=some (so x)):At9 w B x:=by
 unfold so at h
 simp [At9,World.cell?,h]
set_option maxHeartbeats 1000000 in
theorem bfit_any (x:ShT) (w:World) :
  Calls Tryz.prog 47 #[x.v] w fun e w'=>e=.returned (.bool (Grain.bfit x.s))∧Below w.heap.size w w':=by
 obtain ⟨⟨se,ra,fi,co,rf,ff,ft,cf,ct⟩,a0,c0,a1,c1,a2,c2,a3,c3⟩:=x
 have HB:Hid (Grain.bfit ⟨se,ra,fi,co,rf,ff,ft,cf,ct⟩=(Grain.span ff ft 10 && (Grain.span cf ct 60 && decide (0≤rf∧rf≤ft∧ff≤ct∧ct≤ft)))):=rfl
 have bel:∀ o,Below w.heap.size w (w.alloc o):=fun o=>(Below.refl _ _).alloc (Nat.le_refl _) _
 have BE:=hide bel
 clear bel
 simp only [ShT.v]
 cases h1:Grain.span ff ft 10
 ·rw [h1] at HB
  have H1:=hide h1
  clear h1
  go_enter Tryz.func47,Tryz.ntmps47
  go_wp2_with fail
  refine (span_any ff ft 10 _ (.inl rfl)).mono ?_
  intro e w1 hh
  rw [hh.1,hh.2,H1.out]
  clear hh
  go_wp2
  go_ret
  exact ⟨by rw [HB.out];rfl,BE.out _⟩
 ·cases h2:Grain.span cf ct 60
  ·rw [h1,h2] at HB
   have H1:=hide h1
   have H2:=hide h2
   clear h1 h2
   go_enter Tryz.func47,Tryz.ntmps47
   go_wp2_with fail
   refine (span_any ff ft 10 _ (.inl rfl)).mono ?_
   intro e w1 hh
   rw [hh.1,hh.2,H1.out]
   clear hh
   go_wp2_with fail
   refine (span_any cf ct 60 _ (.inr rfl)).mono ?_
   intro e w1 hh
   rw [hh.1,hh.2,H2.out]
   clear hh
   go_wp2
   go_ret
   exact ⟨by rw [HB.out];rfl,BE.out _⟩
  ·rw [h1,h2] at HB
   have H1:=hide h1
   have H2:=hide h2
   clear h1 h2
   go_enter Tryz.func47,Tryz.ntmps47
   go_wp2_with fail
   refine (span_any ff ft 10 _ (.inl rfl)).mono ?_
   intro e w1 hh
   rw [hh.1,hh.2,H1.out]
   clear hh
   go_wp2_with fail
   refine (span_any cf ct 60 _ (.inr rfl)).mono ?_
   intro e w1 hh
   rw [hh.1,hh.2,H2.out]
   clear hh
   go_wp2
   all_goals
    go_ret
    refine ⟨?_,BE.out _⟩
    rw [HB.out]
    refine ret_bool ?_
    rw [Bool.eq_iff_iff]
    simp
    try omega
theorem ef1_any (t v rf:Int) (B:Nat) (w:World) (hB:w.cell? ⟨B,4,none⟩=some (.int .i64 rf)) :
  Calls Tryz.prog 79 #[.agg #[.int .i64 t,.int .i64 v],.pointer (some ⟨B,0,none⟩)] w fun e w'=>e=.returned (.bool (decide (t<rf)))∧Below w.heap.size w w':=by
 have hl:B<w.heap.size:=World.block_lt_of_cell? w _ hB
 have bel:Below w.heap.size w (w.alloc (.cells #[.int .i64 t,.int .i64 v] 34)):=(Below.refl _ _).alloc (Nat.le_refl _) _
 go_enter Tryz.func79,Tryz.ntmps79
 go_wp2
 go_ret
 exact ⟨rfl,bel⟩
theorem aw1_any (K:Grain.Bk) (f t:Int) (B1 B2:Nat) (w:World) (h1:w.cell? ⟨B1,0,none⟩=some (.int .i64 f)) (h2:w.cell? ⟨B2,0,none⟩=some (.int .i64 t)) :
  Calls Tryz.prog 119 #[kv K,.pointer (some ⟨B1,0,none⟩),.pointer (some ⟨B2,0,none⟩)] w fun e w'=>e=.returned (.bool (decide (K.a<f) || decide (t≤K.a)))∧Below w.heap.size w w':=by
 have hl1:B1<w.heap.size:=World.block_lt_of_cell? w _ h1
 have hl2:B2<w.heap.size:=World.block_lt_of_cell? w _ h2
 have bel:Below w.heap.size w (w.alloc (ko K)):=(Below.refl _ _).alloc (Nat.le_refl _) _
 unfold ko at bel
 unfold kv
 go_enter Tryz.func119,Tryz.ntmps119
 go_wp2
 all_goals
  go_ret
  refine ⟨ret_bool ?_,bel⟩
  (rw [Bool.eq_iff_iff]) <;> simp <;> try omega
set_option maxHeartbeats 1000000 in
theorem aw_any (l:List Grain.Bk) (f t:Int) (ao:Option Addr) (n c:Nat) (w:World) (ha:Seg w ao (kcells l)) (hn:n=l.length) (hc:n≤9223372036854775807) :
  Calls Tryz.prog 81 #[.slice ao n c,.int .i64 f,.int .i64 t] w fun e w'=>e=.returned (.bool (Grain.within l f t))∧Below w.heap.size w w':=by
 obtain ⟨V,hV⟩:∃ V,V=(w.alloc (.cells #[.int .i64 f] 3)).alloc (.cells #[.int .i64 t] 3):=⟨_,rfl⟩
 have bel:Below w.heap.size w V:=by rw [hV];exact ((Below.refl _ _).alloc (Nat.le_refl _) _).alloc (by simp) _
 have hVs:V.heap.size=w.heap.size+2:=by rw [hV];simp
 have q1:V.cell? ⟨w.heap.size,0,none⟩=some (.int .i64 f):=by rw [hV];simp
 have q2:V.cell? ⟨w.heap.size+1,0,none⟩=some (.int .i64 t):=by rw [hV];simp
 have HV:=hide hV
 have HN:=hide hn
 have haV:=ha.below bel
 have hE:=hide (enters (P:=Tryz.prog) Tryz.func119 (by kernel_rfl) (by kernel_rfl))
 have hF:∀ W K,Below V.heap.size V W→Calls Tryz.prog 119 (#[kv K]++#[.pointer (some ⟨w.heap.size,0,none⟩),.pointer (some ⟨w.heap.size+1,0,none⟩)]) W fun e W'=>e=.returned (.bool (decide (K.a<f) || decide (t≤K.a)))∧Below W.heap.size W W':=by
  intro W K hb
  have:=aw1_any K f t w.heap.size (w.heap.size+1) W ((hb.cell (p:=⟨w.heap.size,0,none⟩) (by show w.heap.size<V.heap.size;omega)).trans q1) ((hb.cell (p:=⟨w.heap.size+1,0,none⟩) (by show w.heap.size+1<V.heap.size;omega)).trans q2)
  simpa using this
 have HF:=hide hF
 clear hV hn hF q1 q2
 go_enter Tryz.func81,Tryz.ntmps81
 go_wp2_with fail
 rw [← HV.out]
 refine (kcont_any l (fun K=>decide (K.a<f) || decide (t≤K.a)) 119 _ ao n c V haV HN.out hc hE HF.out).mono ?_
 rintro e w1 ⟨rfl,hb1⟩
 have bel1:Below w.heap.size w w1:=bel.trans (hb1.mono bel.size)
 have HW:=hide (within_bk l f t)
 generalize (l.any fun x=>(decide (x.a<f) || decide (t≤x.a)))=A at HW ⊢
 clear hb1 HV
 go_wp2
 go_ret
 exact ⟨by rw [← HW.out];rfl,bel1⟩
end Go.Proofs.YtoldmigappbjcaaGreatDoor
namespace Grain
theorem inB_filter (f t:Int):∀ (B:List Bk) (s:Sm),(winB B f t).foldl (fun acc b=>if f≤b.a∧b.a<t then join acc b.s else acc) s=B.foldl (fun acc b=>if f≤b.a∧b.a<t then join acc b.s else acc) s:=by
 intro B
 induction B with
 | nil=>intro s;rfl
 | cons b r ih =>
  intro s
  by_cases h:f≤b.a∧b.a<t
  ·unfold winB at ih ⊢
   rw [List.filter_cons_of_pos (by simpa using h),List.foldl_cons,List.foldl_cons,ih]
  ·unfold winB at ih ⊢
   rw [List.filter_cons_of_neg (by simpa using h),List.foldl_cons,if_neg h,ih]
theorem inB_winB (B:List Bk) (f t:Int):inB (winB B f t) f t=inB B f t:=inB_filter f t B zero
end Grain
namespace Go.Proofs.YtoldmigappbjcaaGreatDoor
open Go.RowKit Go.GrainU
set_option maxRecDepth 20000 in
set_option maxHeartbeats 2000000 in
theorem rbk_any (l:List Grain.Bk) (ao:Option Addr) (n c:Nat) (p:Grain.Pt) (w:World) (hs:Seg w ao (kcells l)) (hn:n=l.length) (hc:n≤c) (hL:n≤1000000) (hpw:l.Pairwise (fun x y=>x.a<y.a)) (hft:p.f≤p.t) :
  Calls Tryz.prog 212 #[.slice ao n c,.agg #[.int .i64 p.k,.int .i64 p.f,.int .i64 p.t]] w fun e w'=>∃ (J:Grain.Sm) (m:Nat),e=.returned (.tuple #[.agg #[.int .i64 J.c,.int .i64 J.t,.int .i64 J.mn,.int .i64 J.mx,.int .i64 J.f,.int .i64 J.l,.int .i64 J.r],.int .i64 m])∧Hid (J=Grain.inB l p.f p.t)∧Hid (m=(Grain.winB l p.f p.t).length)∧Below w.heap.size w w':=by
 obtain ⟨X,hX⟩:∃ X,X=w.heap.size:=⟨_,rfl⟩
 obtain ⟨V,hV⟩:∃ V,V=(w.alloc (.cells #[.int .i64 p.k,.int .i64 p.f,.int .i64 p.t] 235)).alloc (.cells #[.int .i64 0,.int .i64 0,.int .i64 0,.int .i64 0,.int .i64 0,.int .i64 0,.int .i64 0] 76):=⟨_,rfl⟩
 have bel:Below w.heap.size w V:=by rw [hV];exact ((Below.refl _ _).alloc (Nat.le_refl _) _).alloc (by simp) _
 have P0:V.heap[X]?=some (.cells #[.int .i64 p.k,.int .i64 p.f,.int .i64 p.t] 235 (0,0)):=by
  rw [hV,hX,Below.heap_alloc _ _ _ (by simp)];exact heap_alloc_new w _
 have Z0:SumAt V (X+1) Grain.zero:=by
  show V.heap[X+1]?=_
  rw [hV,hX];have:=heap_alloc_new (w.alloc (.cells #[.int .i64 p.k,.int .i64 p.f,.int .i64 p.t] 235)) (.cells #[.int .i64 0,.int .i64 0,.int .i64 0,.int .i64 0,.int .i64 0,.int .i64 0,.int .i64 0] 76);rwa [World.size_alloc] at this
 have hsV:=hs.below bel
 have hXV:X+1<V.heap.size:=lt_of_block Z0
 have HV:=hide hV
 have HX:=hide hX
 have HPW:=hide hpw
 have HFT:=hide hft
 have HN:=hide hn
 clear hV hX hs hpw hft hn
 go_enter Tryz.func212,Tryz.ntmps212
 go_wp2_with fail
 rw [← HV.out,← HX.out]
 refine (kwithin_any l ao n c p V hsV HN.out hc hL HPW.out HFT.out).mono ?_
 rintro e w1 ⟨bo,m,d,rfl,seg1,HM,hb1⟩
 have hm:m≤1000000:=by
  have:(Grain.winB l p.f p.t).length≤l.length:=List.length_filter_le _ _
  have:=HM.out
  have:=HN.out
  omega
 have P1:=below_block hb1 P0
 have Z1:=Z0.below hb1
 have seg2:=seg1.below hb1
 have bel1:Below w.heap.size w w1:=below_pl hb1 bel
 obtain ⟨p0,p1,p2⟩:=three3 P1
 clear hb1 seg1 Z0 P0 hsV
 go_wp2_with fail
 refine (kof_any (Grain.winB l p.f p.t) bo m d p.f p.t w1 seg2 HM.out hm).mono ?_
 rintro e w2 ⟨J,HJ,rfl,hb2⟩
 have Z2:=Z1.below hb2
 have bel2:Below w.heap.size w w2:=below_pl hb2 bel1
 obtain ⟨z0,z1,z2,z3,z4,z5,z6⟩:=Z2.cells
 obtain ⟨y0,y1,y2,y3,y4,y5,y6⟩:=seven_thaw Z2
 go_wp2
 exact bodyPost_ret (v:=.tuple #[.agg #[.int .i64 J.c,.int .i64 J.t,.int .i64 J.mn,.int .i64 J.mx,.int .i64 J.f,.int .i64 J.l,.int .i64 J.r],.int .i64 m]) (by simp [results,Tryz.results212,go_sem,z0,z1,z2,z3,z4,z5,z6]) rfl ⟨J,m,rfl,by rw [HJ.out,Grain.inB_winB];exact (rfl:Hid _),HM,below_set7 bel2 (by have:=HX.out;omega) _ _ _ _ _ _ _⟩
set_option maxRecDepth 20000 in
set_option maxHeartbeats 2000000 in
theorem rpart_any (x:ShT) (p:Grain.Pt) (w:World) (hx:ShIn w x) (hcap:ShCap x) (h1:x.s.ra.length≤500) (h2:x.s.fi.length≤500) (h3:x.s.co.length≤500) (q1:x.s.ra.Pairwise (fun a b=>a.1<b.1)) (q2:x.s.fi.Pairwise (fun a b=>a.a<b.a)) (q3:x.s.co.Pairwise (fun a b=>a.a<b.a)) (hft:p.f≤p.t) :
  Calls Tryz.prog 183 #[.agg #[.slice x.a0 x.s.se.length x.c0,.slice x.a1 x.s.ra.length x.c1,.slice x.a2 x.s.fi.length x.c2,.slice x.a3 x.s.co.length x.c3,.int .i64 x.s.rf,.int .i64 x.s.ff,.int .i64 x.s.ft,.int .i64 x.s.cf,.int .i64 x.s.ct],.agg #[.int .i64 p.k,.int .i64 p.f,.int .i64 p.t]] w fun e w'=>∃ (J:Grain.Sm) (m:Nat),e=.returned (.tuple #[.agg #[.int .i64 J.c,.int .i64 J.t,.int .i64 J.mn,.int .i64 J.mx,.int .i64 J.f,.int .i64 J.l,.int .i64 J.r],.int .i64 m])∧Hid (J=Grain.psum x.s p)∧Hid (m=Grain.pcost x.s p)∧Below w.heap.size w w':=by
 obtain ⟨k,f,t⟩:=p
 obtain ⟨X,hX⟩:∃ X,X=w.heap.size:=⟨_,rfl⟩
 obtain ⟨V,hV⟩:∃ V,V=((w.alloc (.cells #[.slice x.a0 x.s.se.length x.c0,.slice x.a1 x.s.ra.length x.c1,.slice x.a2 x.s.fi.length x.c2,.slice x.a3 x.s.co.length x.c3,.int .i64 x.s.rf,.int .i64 x.s.ff,.int .i64 x.s.ft,.int .i64 x.s.cf,.int .i64 x.s.ct] 59)).alloc (.cells #[.int .i64 k,.int .i64 f,.int .i64 t] 235)).alloc (.cells #[.int .i64 0,.int .i64 0,.int .i64 0,.int .i64 0,.int .i64 0,.int .i64 0,.int .i64 0] 76):=⟨_,rfl⟩
 have bel:Below w.heap.size w V:=by rw [hV];exact (((Below.refl _ _).alloc (Nat.le_refl _) _).alloc (by simp) _).alloc (by simp;omega) _
 have Z0:SumAt V (X+2) Grain.zero:=by
  show V.heap[X+2]?=_
  rw [hV,hX];have:=heap_alloc_new ((w.alloc (.cells #[.slice x.a0 x.s.se.length x.c0,.slice x.a1 x.s.ra.length x.c1,.slice x.a2 x.s.fi.length x.c2,.slice x.a3 x.s.co.length x.c3,.int .i64 x.s.rf,.int .i64 x.s.ff,.int .i64 x.s.ft,.int .i64 x.s.cf,.int .i64 x.s.ct] 59)).alloc (.cells #[.int .i64 k,.int .i64 f,.int .i64 t] 235)) (.cells #[.int .i64 0,.int .i64 0,.int .i64 0,.int .i64 0,.int .i64 0,.int .i64 0,.int .i64 0] 76);rwa [World.size_alloc,World.size_alloc] at this
 have hxV:=hx.below bel
 have HV:=hide hV
 have HX:=hide hX
 have HP1:=hide q1
 have HP2:=hide q2
 have HP3:=hide q3
 have HL1:Hid (x.s.ra.length≤1000000):=by show _≤_;omega
 have HL2:Hid (x.s.fi.length≤1000000):=by show _≤_;omega
 have HL3:Hid (x.s.co.length≤1000000):=by show _≤_;omega
 have HFT:=hide hft
 simp only [Grain.psum,Grain.pcost]
 clear hV hX q1 q2 q3 hft hx h1 h2 h3
 by_cases k1:k=1
 ·subst k1
  go_enter Tryz.func183,Tryz.ntmps183
  go_wp2_with fail
  rw [← HV.out,← HX.out]
  refine (rbk_any x.s.fi x.a2 _ x.c2 ⟨1,f,t⟩ V hxV.g2 rfl hcap.k2 HL2.out HP2.out HFT.out).mono ?_
  rintro e w1 ⟨J,m,rfl,HJ,HM,hb1⟩
  have Z1:=Z0.below hb1
  have bel1:Below w.heap.size w w1:=below_pl hb1 bel
  obtain ⟨z0,z1,z2,z3,z4,z5,z6⟩:=Z1.cells
  obtain ⟨y0,y1,y2,y3,y4,y5,y6⟩:=seven_thaw Z1
  go_wp2
  exact bodyPost_ret (v:=.tuple #[.agg #[.int .i64 J.c,.int .i64 J.t,.int .i64 J.mn,.int .i64 J.mx,.int .i64 J.f,.int .i64 J.l,.int .i64 J.r],.int .i64 m]) (by simp [results,Tryz.results183,go_sem,z0,z1,z2,z3,z4,z5,z6]) rfl ⟨J,m,rfl,HJ,HM,below_set7 bel1 (by have:=HX.out;omega) _ _ _ _ _ _ _⟩
 ·by_cases k2:k=2
  ·subst k2
   go_enter Tryz.func183,Tryz.ntmps183
   go_wp2_with fail
   rw [← HV.out,← HX.out]
   refine (rbk_any x.s.co x.a3 _ x.c3 ⟨2,f,t⟩ V hxV.g3 rfl hcap.k3 HL3.out HP3.out HFT.out).mono ?_
   rintro e w1 ⟨J,m,rfl,HJ,HM,hb1⟩
   have Z1:=Z0.below hb1
   have bel1:Below w.heap.size w w1:=below_pl hb1 bel
   obtain ⟨z0,z1,z2,z3,z4,z5,z6⟩:=Z1.cells
   obtain ⟨y0,y1,y2,y3,y4,y5,y6⟩:=seven_thaw Z1
   go_wp2
   exact bodyPost_ret (v:=.tuple #[.agg #[.int .i64 J.c,.int .i64 J.t,.int .i64 J.mn,.int .i64 J.mx,.int .i64 J.f,.int .i64 J.l,.int .i64 J.r],.int .i64 m]) (by simp [results,Tryz.results183,go_sem,z0,z1,z2,z3,z4,z5,z6]) rfl ⟨J,m,rfl,HJ,HM,below_set7 bel1 (by have:=HX.out;omega) _ _ _ _ _ _ _⟩
  ·have e1:(k == 1)=false:=by simpa using k1
   have e2:(k == 2)=false:=by simpa using k2
   simp only [k1,k2,if_false]
   go_enter Tryz.func183,Tryz.ntmps183
   go_wp2_with fail
   rw [← HV.out,← HX.out]
   refine (within_any x.s.ra x.a1 _ x.c1 ⟨k,f,t⟩ V hxV.g1 rfl hcap.k1 HL1.out HP1.out HFT.out).mono ?_
   rintro e w1 ⟨bo,m,d,rfl,seg1,HM,hb1⟩
   have hm:m≤1152921504606846975:=by
    have:(Grain.win x.s.ra f t).length≤x.s.ra.length:=List.length_filter_le _ _
    have h1:m=(Grain.win x.s.ra f t).length:=HM.out
    have:=HL1.out
    omega
   have Z1:=Z0.below hb1
   have seg2:=seg1.below hb1
   have bel1:Below w.heap.size w w1:=below_pl hb1 bel
   clear hb1 seg1 Z0
   go_wp2_with fail
   refine (of_len _ bo m d w1 seg2 HM.out hm).mono ?_
   rintro e w2 ⟨J,HJ,rfl,hb2⟩
   have Z2:=Z1.below hb2
   have bel2:Below w.heap.size w w2:=below_pl hb2 bel1
   obtain ⟨z0,z1,z2,z3,z4,z5,z6⟩:=Z2.cells
   obtain ⟨y0,y1,y2,y3,y4,y5,y6⟩:=seven_thaw Z2
   go_wp2
   exact bodyPost_ret (v:=.tuple #[.agg #[.int .i64 J.c,.int .i64 J.t,.int .i64 J.mn,.int .i64 J.mx,.int .i64 J.f,.int .i64 J.l,.int .i64 J.r],.int .i64 m]) (by simp [results,Tryz.results183,go_sem,z0,z1,z2,z3,z4,z5,z6]) rfl ⟨J,m,rfl,HJ,HM,below_set7 bel2 (by have:=HX.out;omega) _ _ _ _ _ _ _⟩
end Go.Proofs.YtoldmigappbjcaaGreatDoor
