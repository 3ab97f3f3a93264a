import Derived.Deep.RegionWith
import Derived.Orders
import Derived.Test.YtoldmigappbjcaaGreatDoorK15
import Derived.Test.YtoldmigappbjcaaGreatDoorK18
namespace Go.GrainU
def skipAct:List (Nat×Nat)→Act→Act
 | [],a=>a
 | i::r,a=>skipAct r (a.put (some i.2) undef)
def skipSet:List (Nat×Nat)→Array Bool→Array Bool
 | [],l=>l
 | i::r,l=>skipSet r (l.setIfInBounds i.1 true)
def skipOk (md:Region.Mode) (ops:Array Oper):List (Nat×Nat)→Array Bool→Act→Bool
 | [],_,_=>true
 | i::r,l,a=>match ops[i.1]? with
  | some o=>decide (o.dst=some i.2) && (Region.free md ops l i.1 && ((Region.ready md ops l).contains i.1 && (!(Region.wanted o (yielded ops a.tmps)) && skipOk md ops r (l.setIfInBounds i.1 true) (a.put (some i.2) undef))))
  | none=>false
theorem wpAny_skips {P:Program} {ops:Array Oper} {Q:Exit→Act→World→Prop} {md:Region.Mode} (hs:Region.noSelect ops=true) (hQ:∀ c a w (d:Nat),Q (.panic c) (a.put (some d) undef) w→Q (.panic c) a w) :
  ∀ (is:List (Nat×Nat)) (fuel fuel':Nat) (listed:Array Bool) (a:Act) (w:World),fuel'=fuel+is.length→skipOk md ops is listed a=true→wpAny P md ops Q fuel (skipSet is listed) (skipAct is a) w→wpAny P md ops Q fuel' listed a w:=by
 intro is
 induction is with
 | nil=>intro fuel fuel' listed a w hf _ h;obtain rfl:fuel'=fuel:=hf;exact h
 | cons i r ih =>
  intro fuel fuel' listed a w hf hok h
  unfold skipOk at hok
  cases ho:ops[i.1]? with
  | none=>rw [ho] at hok;cases hok
  | some o =>
   rw [ho] at hok
   simp only [Bool.and_eq_true,Bool.not_eq_true',decide_eq_true_eq] at hok
   obtain ⟨h0,h1,h2,h3,h4⟩:=hok
   obtain rfl:fuel'=(fuel+r.length)+1:=by rw [hf];simp;omega
   refine wpAny_take (i:=i.1) (v:=undef) ho hs h1 h2 (fun c a w hh=>hQ c a w i.2 (by rw [← h0];exact hh)) (Or.inr ⟨h3,rfl⟩) (ih fuel _ _ _ w rfl (by rw [h0];exact h4) ?_)
   rw [h0]
   exact h
end Go.GrainU
namespace Go.Proofs.YtoldmigappbjcaaGreatDoor
open Go.RowKit Go.GrainU
def sbl (v0 v1 v2 v3:Value) (s:Grain.Shf):Obj:=.cells #[v0,v1,v2,v3,.int .i64 s.rf,.int .i64 s.ff,.int .i64 s.ft,.int .i64 s.cf,.int .i64 s.ct] 59
set_option maxHeartbeats 4000000 in
theorem follow_any (s:Grain.Shf) (v0 v1 v2 v3:Value) (l:List Grain.Pt) (ao:Option Addr) (n c:Nat) (b:Bool) (w:World) (hs:Seg w ao (pcells l)) (hn:n=l.length) (hL:n≤1000000000000000) (hb:b=Grain.fol s l) :
  Calls Tryz.prog 182 #[.agg #[v0,v1,v2,v3,.int .i64 s.rf,.int .i64 s.ff,.int .i64 s.ft,.int .i64 s.cf,.int .i64 s.ct],.slice ao n c] w fun e w'=>e=.returned (.bool b)∧Below w.heap.size w w':=by
 have HN:=hide hn
 have HB:=hide hb
 clear hn hb
 obtain ⟨X,hX⟩:∃ X,X=w.heap.size:=⟨_,rfl⟩
 obtain ⟨V,hV⟩:∃ V,V=w.alloc (.cells #[v0,v1,v2,v3,.int .i64 s.rf,.int .i64 s.ff,.int .i64 s.ft,.int .i64 s.cf,.int .i64 s.ct] 59):=⟨_,rfl⟩
 have bel:Below X w V:=by rw [hV,hX];exact (Below.refl _ _).alloc (Nat.le_refl _) _
 have S0:V.heap[X]?=some (sbl v0 v1 v2 v3 s):=by rw [hV,hX];exact heap_alloc_new w _
 have hXV:X≤V.heap.size:=by rw [hX];exact bel.size
 have hsV:=hs.below (by rw [← hX];exact bel)
 have HV:=hide hV
 have HX:=hide hX
 clear hV hX hs
 go_enter Tryz.func182,Tryz.ntmps182
 go_wp2
 rw [← HV.out,← HX.out]
 go_loopw [9] (fun i wr=>∃ k:Nat,k≤n∧i=.int .i64 k∧Hid (∀ j,j<k→Grain.okp s l j=true)∧Below V.heap.size V wr) (fun i _=>n-(intOf i).toNat)
 case atStart=>exact ⟨0,Nat.zero_le _,rfl,(fun j hj=>absurd hj (Nat.not_lt_zero _):∀ j,j<0→Grain.okp s l j=true),Below.refl _ _⟩
 case round =>
  obtain ⟨k,hk,rfl,HO,belr⟩:=hrel
  by_cases hlt:k<n
  ·have hkl:k<l.length:=by rw [← HN.out];exact hlt
   obtain ⟨bb,off,rfl,hbl,hcell⟩:=seg_part hsV hkl
   obtain ⟨P,hP⟩:∃ P,P=Grain.pt l k:=⟨_,rfl⟩
   have q:=(hcell k hkl).below belr hbl
   rw [← hP] at q
   obtain ⟨c0,c1,c2⟩:=q
   obtain ⟨W,hW⟩:∃ W,W=wr.alloc (.cells #[.int .i64 P.k,.int .i64 P.f,.int .i64 P.t] 235):=⟨_,rfl⟩
   have hbW:Below wr.heap.size wr W:=by rw [hW];exact (Below.refl _ _).alloc (Nat.le_refl _) _
   have belW:Below V.heap.size V W:=belr.trans (hbW.mono belr.size)
   have P0:W.heap[wr.heap.size]?=some (.cells #[.int .i64 P.k,.int .i64 P.f,.int .i64 P.t] 235 (0,0)):=by rw [hW];exact heap_alloc_new wr _
   have S1:=below_block belW S0
   obtain ⟨x0,x1,x2,x3,x4,x5,x6,x7,x8⟩:=nine9 S1
   obtain ⟨y0,y1,y2⟩:=three3 P0
   have Xl:X<W.heap.size:=lt_of_block S1
   have Yl:wr.heap.size<W.heap.size:=lt_of_block P0
   have HW:=hide hW
   have HP:=hide hP
   clear hW hP
   obtain ⟨m,hm⟩:∃ m,m=Grain.may s P:=⟨_,rfl⟩
   have HM:=hide hm
   clear hm
   go_wp2_with fail
   rw [← HW.out]
   clear c0 c1 c2
   cases m
   ·have e:b=false:=by
     rw [HB.out,Bool.eq_false_iff]
     intro h
     have:=(Grain.fol_iff s l).1 h k hkl
     simp [Grain.okp,← HP.out,← HM.out] at this
    subst e
    clear HB HO HP hcell
    have HS:Hid (∀ w',Below W.heap.size W w'→w'.cell? ⟨X,0,none⟩=some v0∧w'.cell? ⟨X,1,none⟩=some v1∧w'.cell? ⟨X,2,none⟩=some v2∧w'.cell? ⟨X,3,none⟩=some v3∧w'.cell? ⟨X,4,none⟩=some (.int .i64 s.rf)∧w'.cell? ⟨X,5,none⟩=some (.int .i64 s.ff)∧w'.cell? ⟨X,6,none⟩=some (.int .i64 s.ft)∧w'.cell? ⟨X,7,none⟩=some (.int .i64 s.cf)∧w'.cell? ⟨X,8,none⟩=some (.int .i64 s.ct)∧w'.cell? ⟨wr.heap.size,0,none⟩=some (.int .i64 P.k)∧w'.cell? ⟨wr.heap.size,1,none⟩=some (.int .i64 P.f)∧w'.cell? ⟨wr.heap.size,2,none⟩=some (.int .i64 P.t)):=fun w' hb'=>⟨(hb'.cell (by exact Xl)).trans x0,(hb'.cell (by exact Xl)).trans x1,(hb'.cell (by exact Xl)).trans x2,(hb'.cell (by exact Xl)).trans x3,(hb'.cell (by exact Xl)).trans x4,(hb'.cell (by exact Xl)).trans x5,(hb'.cell (by exact Xl)).trans x6,(hb'.cell (by exact Xl)).trans x7,(hb'.cell (by exact Xl)).trans x8,(hb'.cell (by exact Yl)).trans y0,(hb'.cell (by exact Yl)).trans y1,(hb'.cell (by exact Yl)).trans y2⟩
    have R1:Below W.heap.size W W.drew:=below_drewN (Below.refl _ _) 1
    clear x0 x1 x2 x3 x4 x5 x6 x7 x8 y0 y1 y2
    obtain ⟨x0,x1,x2,x3,x4,x5,x6,x7,x8,y0,y1,y2⟩:=HS.out _ R1
    refine wp_region_any (by kernel_rfl) ?_
    try (change wpAny _ _ _ _ _ _ _ (World.drew _))
    refine wpAny_ready (rs:=[0,1]) (by kernel_rfl) (by simp) ?_
    refine AllReady.cons rfl (fun K hK=>?_) (AllReady.cons rfl (fun K hK=>?_) AllReady.nil)
    ·go_simp
     refine hK _ _ ?_
     clear hK K
     refine wpAny_ready (rs:=[1]) (by kernel_rfl) (by simp) ?_
     refine AllReady.cons rfl (fun K hK=>?_) AllReady.nil
     go_simp
     refine hK _ _ ?_
     clear hK K
     clear x0 x1 x2 x3 x4 x5 x6 x7 x8 y0 y1 y2
     refine wpAny_ready (rs:=[2]) (by kernel_rfl) (by simp) ?_
     refine AllReady.cons rfl (fun K hK=>?_) AllReady.nil
     go_simp
     go_wp2_with (first | (go_at_call 181;refine (may_any s v0 v1 v2 v3 P false _ HM.out).mono ?_;rintro e w1 ⟨rfl,hb1⟩;have R2:=below_pl hb1 R1;obtain ⟨x0,x1,x2,x3,x4,x5,x6,x7,x8,y0,y1,y2⟩:=HS.out _ R2;clear hb1))
     refine wpAny_ready (rs:=[3]) (by kernel_rfl) (by simp) ?_
     refine AllReady.cons rfl (fun K hK=>?_) AllReady.nil
     go_simp
     refine hK _ _ ?_
     clear hK K
     refine wpAny_ready (rs:=[4]) (by kernel_rfl) (by simp) ?_
     refine AllReady.cons rfl (fun K hK=>?_) AllReady.nil
     go_simp
     refine hK _ _ ?_
     clear hK K
     refine wpAny_skips (by kernel_rfl) (fun _ _ _ _ h=>h) [(5,19),(6,20),(7,21),(8,22),(9,23),(10,24),(11,25),(12,26),(13,27),(14,28),(15,29),(16,30),(17,31)] 1 14 _ _ _ rfl (by kernel_rfl) ?_
     simp only [skipAct,skipSet]
     refine wpAny_ready (rs:=[18]) (by kernel_rfl) (by simp) ?_
     refine AllReady.cons rfl (fun K hK=>?_) AllReady.nil
     go_simp
     refine hK _ _ ?_
     clear hK K
     refine wpAny_done (by kernel_rfl) ?_ _
     go_wp2
     go_ret
     exact ⟨rfl,by rw [← HX.out];exact bel.trans ((below_pl R2 belW).mono hXV)⟩
    ·go_simp
     refine hK _ _ ?_
     clear hK K
     refine wpAny_ready (rs:=[0]) (by kernel_rfl) (by simp) ?_
     refine AllReady.cons rfl (fun K hK=>?_) AllReady.nil
     go_simp
     refine hK _ _ ?_
     clear hK K
     clear x0 x1 x2 x3 x4 x5 x6 x7 x8 y0 y1 y2
     refine wpAny_ready (rs:=[2]) (by kernel_rfl) (by simp) ?_
     refine AllReady.cons rfl (fun K hK=>?_) AllReady.nil
     go_simp
     go_wp2_with (first | (go_at_call 181;refine (may_any s v0 v1 v2 v3 P false _ HM.out).mono ?_;rintro e w1 ⟨rfl,hb1⟩;have R2:=below_pl hb1 R1;obtain ⟨x0,x1,x2,x3,x4,x5,x6,x7,x8,y0,y1,y2⟩:=HS.out _ R2;clear hb1))
     refine wpAny_ready (rs:=[3]) (by kernel_rfl) (by simp) ?_
     refine AllReady.cons rfl (fun K hK=>?_) AllReady.nil
     go_simp
     refine hK _ _ ?_
     clear hK K
     refine wpAny_ready (rs:=[4]) (by kernel_rfl) (by simp) ?_
     refine AllReady.cons rfl (fun K hK=>?_) AllReady.nil
     go_simp
     refine hK _ _ ?_
     clear hK K
     refine wpAny_skips (by kernel_rfl) (fun _ _ _ _ h=>h) [(5,19),(6,20),(7,21),(8,22),(9,23),(10,24),(11,25),(12,26),(13,27),(14,28),(15,29),(16,30),(17,31)] 1 14 _ _ _ rfl (by kernel_rfl) ?_
     simp only [skipAct,skipSet]
     refine wpAny_ready (rs:=[18]) (by kernel_rfl) (by simp) ?_
     refine AllReady.cons rfl (fun K hK=>?_) AllReady.nil
     go_simp
     refine hK _ _ ?_
     clear hK K
     refine wpAny_done (by kernel_rfl) ?_ _
     go_wp2
     go_ret
     exact ⟨rfl,by rw [← HX.out];exact bel.trans ((below_pl R2 belW).mono hXV)⟩
   ·rcases Nat.eq_zero_or_pos k with hk0 | hk0
    ·subst hk0
     have OK:Hid (∀ j,j<0+1→Grain.okp s l j=true):=by
      intro j hj
      obtain rfl:j=0:=by omega
      simp [Grain.okp,← HP.out,← HM.out]
     clear HO HP hcell
     have HS:Hid (∀ w',Below W.heap.size W w'→w'.cell? ⟨X,0,none⟩=some v0∧w'.cell? ⟨X,1,none⟩=some v1∧w'.cell? ⟨X,2,none⟩=some v2∧w'.cell? ⟨X,3,none⟩=some v3∧w'.cell? ⟨X,4,none⟩=some (.int .i64 s.rf)∧w'.cell? ⟨X,5,none⟩=some (.int .i64 s.ff)∧w'.cell? ⟨X,6,none⟩=some (.int .i64 s.ft)∧w'.cell? ⟨X,7,none⟩=some (.int .i64 s.cf)∧w'.cell? ⟨X,8,none⟩=some (.int .i64 s.ct)∧w'.cell? ⟨wr.heap.size,0,none⟩=some (.int .i64 P.k)∧w'.cell? ⟨wr.heap.size,1,none⟩=some (.int .i64 P.f)∧w'.cell? ⟨wr.heap.size,2,none⟩=some (.int .i64 P.t)):=fun w' hb'=>⟨(hb'.cell (by exact Xl)).trans x0,(hb'.cell (by exact Xl)).trans x1,(hb'.cell (by exact Xl)).trans x2,(hb'.cell (by exact Xl)).trans x3,(hb'.cell (by exact Xl)).trans x4,(hb'.cell (by exact Xl)).trans x5,(hb'.cell (by exact Xl)).trans x6,(hb'.cell (by exact Xl)).trans x7,(hb'.cell (by exact Xl)).trans x8,(hb'.cell (by exact Yl)).trans y0,(hb'.cell (by exact Yl)).trans y1,(hb'.cell (by exact Yl)).trans y2⟩
     have R1:Below W.heap.size W W.drew:=below_drewN (Below.refl _ _) 1
     clear x0 x1 x2 x3 x4 x5 x6 x7 x8 y0 y1 y2
     obtain ⟨x0,x1,x2,x3,x4,x5,x6,x7,x8,y0,y1,y2⟩:=HS.out _ R1
     refine wp_region_any (by kernel_rfl) ?_
     try (change wpAny _ _ _ _ _ _ _ (World.drew _))
     refine wpAny_ready (rs:=[0,1]) (by kernel_rfl) (by simp) ?_
     refine AllReady.cons rfl (fun K hK=>?_) (AllReady.cons rfl (fun K hK=>?_) AllReady.nil)
     ·go_simp
      refine hK _ _ ?_
      clear hK K
      refine wpAny_ready (rs:=[1]) (by kernel_rfl) (by simp) ?_
      refine AllReady.cons rfl (fun K hK=>?_) AllReady.nil
      go_simp
      refine hK _ _ ?_
      clear hK K
      clear x0 x1 x2 x3 x4 x5 x6 x7 x8 y0 y1 y2
      refine wpAny_ready (rs:=[2]) (by kernel_rfl) (by simp) ?_
      refine AllReady.cons rfl (fun K hK=>?_) AllReady.nil
      go_simp
      go_wp2_with (first | (go_at_call 181;refine (may_any s v0 v1 v2 v3 P true _ HM.out).mono ?_;rintro e w1 ⟨rfl,hb1⟩;have R2:=below_pl hb1 R1;obtain ⟨x0,x1,x2,x3,x4,x5,x6,x7,x8,y0,y1,y2⟩:=HS.out _ R2;clear hb1))
      refine wpAny_ready (rs:=[3]) (by kernel_rfl) (by simp) ?_
      refine AllReady.cons rfl (fun K hK=>?_) AllReady.nil
      go_simp
      refine hK _ _ ?_
      clear hK K
      refine wpAny_ready (rs:=[4]) (by kernel_rfl) (by simp) ?_
      refine AllReady.cons rfl (fun K hK=>?_) AllReady.nil
      go_simp
      refine hK _ _ ?_
      clear hK K
      refine wpAny_ready (rs:=[5]) (by kernel_rfl) (by simp) ?_
      refine AllReady.cons rfl (fun K hK=>?_) AllReady.nil
      go_simp
      refine hK _ _ ?_
      clear hK K
      refine wpAny_ready (rs:=[6]) (by kernel_rfl) (by simp) ?_
      refine AllReady.cons rfl (fun K hK=>?_) AllReady.nil
      go_simp
      refine hK _ _ ?_
      clear hK K
      refine wpAny_ready (rs:=[7]) (by kernel_rfl) (by simp) ?_
      refine AllReady.cons rfl (fun K hK=>?_) AllReady.nil
      go_simp
      refine hK _ _ ?_
      clear hK K
      refine wpAny_skips (by kernel_rfl) (fun _ _ _ _ h=>h) [(8,22),(9,23),(10,24),(11,25),(12,26),(13,27),(14,28),(15,29),(16,30)] 2 11 _ _ _ rfl (by kernel_rfl) ?_
      simp only [skipAct,skipSet]
      refine wpAny_ready (rs:=[17]) (by kernel_rfl) (by simp) ?_
      refine AllReady.cons rfl (fun K hK=>?_) AllReady.nil
      go_simp
      refine hK _ _ ?_
      clear hK K
      refine wpAny_ready (rs:=[18]) (by kernel_rfl) (by simp) ?_
      refine AllReady.cons rfl (fun K hK=>?_) AllReady.nil
      go_simp
      refine hK _ _ ?_
      clear hK K
      refine wpAny_done (by kernel_rfl) ?_ _
      go_wp2
      go_roundw
      case rel=>exact ⟨0+1,by omega,by go_num,OK,below_pl R2 belW⟩
      case measure=>simp [intOf];omega
     ·go_simp
      refine hK _ _ ?_
      clear hK K
      refine wpAny_ready (rs:=[0]) (by kernel_rfl) (by simp) ?_
      refine AllReady.cons rfl (fun K hK=>?_) AllReady.nil
      go_simp
      refine hK _ _ ?_
      clear hK K
      clear x0 x1 x2 x3 x4 x5 x6 x7 x8 y0 y1 y2
      refine wpAny_ready (rs:=[2]) (by kernel_rfl) (by simp) ?_
      refine AllReady.cons rfl (fun K hK=>?_) AllReady.nil
      go_simp
      go_wp2_with (first | (go_at_call 181;refine (may_any s v0 v1 v2 v3 P true _ HM.out).mono ?_;rintro e w1 ⟨rfl,hb1⟩;have R2:=below_pl hb1 R1;obtain ⟨x0,x1,x2,x3,x4,x5,x6,x7,x8,y0,y1,y2⟩:=HS.out _ R2;clear hb1))
      refine wpAny_ready (rs:=[3]) (by kernel_rfl) (by simp) ?_
      refine AllReady.cons rfl (fun K hK=>?_) AllReady.nil
      go_simp
      refine hK _ _ ?_
      clear hK K
      refine wpAny_ready (rs:=[4]) (by kernel_rfl) (by simp) ?_
      refine AllReady.cons rfl (fun K hK=>?_) AllReady.nil
      go_simp
      refine hK _ _ ?_
      clear hK K
      refine wpAny_ready (rs:=[5]) (by kernel_rfl) (by simp) ?_
      refine AllReady.cons rfl (fun K hK=>?_) AllReady.nil
      go_simp
      refine hK _ _ ?_
      clear hK K
      refine wpAny_ready (rs:=[6]) (by kernel_rfl) (by simp) ?_
      refine AllReady.cons rfl (fun K hK=>?_) AllReady.nil
      go_simp
      refine hK _ _ ?_
      clear hK K
      refine wpAny_ready (rs:=[7]) (by kernel_rfl) (by simp) ?_
      refine AllReady.cons rfl (fun K hK=>?_) AllReady.nil
      go_simp
      refine hK _ _ ?_
      clear hK K
      refine wpAny_skips (by kernel_rfl) (fun _ _ _ _ h=>h) [(8,22),(9,23),(10,24),(11,25),(12,26),(13,27),(14,28),(15,29),(16,30)] 2 11 _ _ _ rfl (by kernel_rfl) ?_
      simp only [skipAct,skipSet]
      refine wpAny_ready (rs:=[17]) (by kernel_rfl) (by simp) ?_
      refine AllReady.cons rfl (fun K hK=>?_) AllReady.nil
      go_simp
      refine hK _ _ ?_
      clear hK K
      refine wpAny_ready (rs:=[18]) (by kernel_rfl) (by simp) ?_
      refine AllReady.cons rfl (fun K hK=>?_) AllReady.nil
      go_simp
      refine hK _ _ ?_
      clear hK K
      refine wpAny_done (by kernel_rfl) ?_ _
      go_wp2
      go_roundw
      case rel=>exact ⟨0+1,by omega,by go_num,OK,below_pl R2 belW⟩
      case measure=>simp [intOf];omega
    ·obtain ⟨j,rfl⟩:∃ j,k=j+1:=⟨k-1,by omega⟩
     have hg:decide ((0:Int)<((j+1:Nat):Int))=true:=by simp
     have hg':decide ((0:Int)<(j:Int)+1)=true:=by simp
     obtain ⟨M,hM⟩:∃ M,M=(Grain.pt l j).t:=⟨_,rfl⟩
     have z2':W.cell? ⟨bb,off+j*3+2,none⟩=some (.int .i64 M):=by
      rw [hM];exact ((hcell j (by omega)).below belW hbl).2.2
     have Bl:bb<W.heap.size:=Nat.lt_of_lt_of_le hbl belW.size
     by_cases he:M=P.f
     ·have OK:Hid (∀ i,i<j+1+1→Grain.okp s l i=true):=by
       intro i hi
       rcases Nat.lt_or_ge i (j+1) with h | h
       ·exact HO.out i h
       ·obtain rfl:i=j+1:=by omega
        simp [Grain.okp,← HP.out,← HM.out,← hM,he]
      have en:(M != P.f)=false:=by simp [he]
      clear HO HP hcell hM he
      have HS:Hid (∀ w',Below W.heap.size W w'→w'.cell? ⟨X,0,none⟩=some v0∧w'.cell? ⟨X,1,none⟩=some v1∧w'.cell? ⟨X,2,none⟩=some v2∧w'.cell? ⟨X,3,none⟩=some v3∧w'.cell? ⟨X,4,none⟩=some (.int .i64 s.rf)∧w'.cell? ⟨X,5,none⟩=some (.int .i64 s.ff)∧w'.cell? ⟨X,6,none⟩=some (.int .i64 s.ft)∧w'.cell? ⟨X,7,none⟩=some (.int .i64 s.cf)∧w'.cell? ⟨X,8,none⟩=some (.int .i64 s.ct)∧w'.cell? ⟨wr.heap.size,0,none⟩=some (.int .i64 P.k)∧w'.cell? ⟨wr.heap.size,1,none⟩=some (.int .i64 P.f)∧w'.cell? ⟨wr.heap.size,2,none⟩=some (.int .i64 P.t)∧w'.cell? ⟨bb,off+j*3+2,none⟩=some (.int .i64 M)):=fun w' hb'=>⟨(hb'.cell (by exact Xl)).trans x0,(hb'.cell (by exact Xl)).trans x1,(hb'.cell (by exact Xl)).trans x2,(hb'.cell (by exact Xl)).trans x3,(hb'.cell (by exact Xl)).trans x4,(hb'.cell (by exact Xl)).trans x5,(hb'.cell (by exact Xl)).trans x6,(hb'.cell (by exact Xl)).trans x7,(hb'.cell (by exact Xl)).trans x8,(hb'.cell (by exact Yl)).trans y0,(hb'.cell (by exact Yl)).trans y1,(hb'.cell (by exact Yl)).trans y2,(hb'.cell (by exact Bl)).trans z2'⟩
      have R1:Below W.heap.size W W.drew:=below_drewN (Below.refl _ _) 1
      have hw1:IntKind.i64.wrap ((j:Int)+1-1)=(j:Int):=by rw [IntKind.wrap_i64];omega
      have hw2:IntKind.i64.wrap (j:Int)=(j:Int):=by rw [IntKind.wrap_i64];omega
      have hj:(j:Int)<(n:Int):=by omega
      clear x0 x1 x2 x3 x4 x5 x6 x7 x8 y0 y1 y2
      obtain ⟨x0,x1,x2,x3,x4,x5,x6,x7,x8,y0,y1,y2,z2'⟩:=HS.out _ R1
      refine wp_region_any (by kernel_rfl) ?_
      try (change wpAny _ _ _ _ _ _ _ (World.drew _))
      refine wpAny_ready (rs:=[0,1]) (by kernel_rfl) (by simp) ?_
      refine AllReady.cons rfl (fun K hK=>?_) (AllReady.cons rfl (fun K hK=>?_) AllReady.nil)
      ·go_simp
       refine hK _ _ ?_
       clear hK K
       refine wpAny_ready (rs:=[1]) (by kernel_rfl) (by simp) ?_
       refine AllReady.cons rfl (fun K hK=>?_) AllReady.nil
       go_simp
       refine hK _ _ ?_
       clear hK K
       clear x0 x1 x2 x3 x4 x5 x6 x7 x8 y0 y1 y2 z2'
       refine wpAny_ready (rs:=[2]) (by kernel_rfl) (by simp) ?_
       refine AllReady.cons rfl (fun K hK=>?_) AllReady.nil
       go_simp
       go_wp2_with (first | (go_at_call 181;refine (may_any s v0 v1 v2 v3 P true _ HM.out).mono ?_;rintro e w1 ⟨rfl,hb1⟩;have R2:=below_pl hb1 R1;obtain ⟨x0,x1,x2,x3,x4,x5,x6,x7,x8,y0,y1,y2,z2'⟩:=HS.out _ R2;clear hb1))
       refine wpAny_ready (rs:=[3]) (by kernel_rfl) (by simp) ?_
       refine AllReady.cons rfl (fun K hK=>?_) AllReady.nil
       go_simp
       refine hK _ _ ?_
       clear hK K
       refine wpAny_ready (rs:=[4]) (by kernel_rfl) (by simp) ?_
       refine AllReady.cons rfl (fun K hK=>?_) AllReady.nil
       go_simp
       refine hK _ _ ?_
       clear hK K
       refine wpAny_ready (rs:=[5]) (by kernel_rfl) (by simp) ?_
       refine AllReady.cons rfl (fun K hK=>?_) AllReady.nil
       go_simp
       refine hK _ _ ?_
       clear hK K
       refine wpAny_ready (rs:=[6]) (by kernel_rfl) (by simp) ?_
       refine AllReady.cons rfl (fun K hK=>?_) AllReady.nil
       go_simp
       refine hK _ _ ?_
       clear hK K
       refine wpAny_ready (rs:=[7]) (by kernel_rfl) (by simp) ?_
       refine AllReady.cons rfl (fun K hK=>?_) AllReady.nil
       go_simp
       refine hK _ _ ?_
       clear hK K
       refine wpAny_take (i:=8) (v:=.slice (some ⟨bb,off,none⟩) n c) rfl (by kernel_rfl) (by kernel_rfl) (by kernel_rfl) (fun _ _ _ h=>h) (Or.inl ⟨by kernel_rfl,fun w=>by go_simp⟩) ?_
       refine wpAny_take (i:=9) (v:=.int .i64 ((j+1:Nat):Int)) rfl (by kernel_rfl) (by kernel_rfl) (by kernel_rfl) (fun _ _ _ h=>h) (Or.inl ⟨by kernel_rfl,fun w=>by go_simp⟩) ?_
       refine wpAny_take (i:=10) (v:=.int .i64 (j:Nat)) rfl (by kernel_rfl) (by kernel_rfl) (by kernel_rfl) (fun _ _ _ h=>h) (Or.inl ⟨by kernel_rfl,fun w=>by go_simp⟩) ?_
       refine wpAny_take (i:=11) (v:=.pointer (some ⟨bb,off+j*3,none⟩)) rfl (by kernel_rfl) (by kernel_rfl) (by kernel_rfl) (fun _ _ _ h=>h) (Or.inl ⟨by kernel_rfl,fun w=>by go_simp⟩) ?_
       refine wpAny_take (i:=12) (v:=.pointer (some ⟨bb,off+j*3+2,none⟩)) rfl (by kernel_rfl) (by kernel_rfl) (by kernel_rfl) (fun _ _ _ h=>h) (Or.inl ⟨by kernel_rfl,fun w=>by go_simp⟩) ?_
       refine wpAny_take (i:=14) (v:=.pointer (some ⟨wr.heap.size,1,none⟩)) rfl (by kernel_rfl) (by kernel_rfl) (by kernel_rfl) (fun _ _ _ h=>h) (Or.inl ⟨by kernel_rfl,fun w=>by go_simp⟩) ?_
       refine wpAny_ready (rs:=[13,15]) (by kernel_rfl) (by simp) ?_
       refine AllReady.cons rfl (fun K hK=>?_) (AllReady.cons rfl (fun K hK=>?_) AllReady.nil)
       ·go_simp
        refine hK _ _ ?_
        clear hK K
        refine wpAny_ready (rs:=[15]) (by kernel_rfl) (by simp) ?_
        refine AllReady.cons rfl (fun K hK=>?_) AllReady.nil
        go_simp
        refine hK _ _ ?_
        clear hK K
        refine wpAny_ready (rs:=[16]) (by kernel_rfl) (by simp) ?_
        refine AllReady.cons rfl (fun K hK=>?_) AllReady.nil
        go_simp
        refine hK _ _ ?_
        clear hK K
        refine wpAny_ready (rs:=[17]) (by kernel_rfl) (by simp) ?_
        refine AllReady.cons rfl (fun K hK=>?_) AllReady.nil
        go_simp
        refine hK _ _ ?_
        clear hK K
        refine wpAny_ready (rs:=[18]) (by kernel_rfl) (by simp) ?_
        refine AllReady.cons rfl (fun K hK=>?_) AllReady.nil
        go_simp
        refine hK _ _ ?_
        clear hK K
        refine wpAny_done (by kernel_rfl) ?_ _
        go_wp2
        go_roundw
        case rel=>exact ⟨j+1+1,by omega,by go_num,OK,below_pl R2 belW⟩
        case measure=>simp [intOf];omega
       ·go_simp
        refine hK _ _ ?_
        clear hK K
        refine wpAny_ready (rs:=[13]) (by kernel_rfl) (by simp) ?_
        refine AllReady.cons rfl (fun K hK=>?_) AllReady.nil
        go_simp
        refine hK _ _ ?_
        clear hK K
        refine wpAny_ready (rs:=[16]) (by kernel_rfl) (by simp) ?_
        refine AllReady.cons rfl (fun K hK=>?_) AllReady.nil
        go_simp
        refine hK _ _ ?_
        clear hK K
        refine wpAny_ready (rs:=[17]) (by kernel_rfl) (by simp) ?_
        refine AllReady.cons rfl (fun K hK=>?_) AllReady.nil
        go_simp
        refine hK _ _ ?_
        clear hK K
        refine wpAny_ready (rs:=[18]) (by kernel_rfl) (by simp) ?_
        refine AllReady.cons rfl (fun K hK=>?_) AllReady.nil
        go_simp
        refine hK _ _ ?_
        clear hK K
        refine wpAny_done (by kernel_rfl) ?_ _
        go_wp2
        go_roundw
        case rel=>exact ⟨j+1+1,by omega,by go_num,OK,below_pl R2 belW⟩
        case measure=>simp [intOf];omega
      ·go_simp
       refine hK _ _ ?_
       clear hK K
       refine wpAny_ready (rs:=[0]) (by kernel_rfl) (by simp) ?_
       refine AllReady.cons rfl (fun K hK=>?_) AllReady.nil
       go_simp
       refine hK _ _ ?_
       clear hK K
       clear x0 x1 x2 x3 x4 x5 x6 x7 x8 y0 y1 y2 z2'
       refine wpAny_ready (rs:=[2]) (by kernel_rfl) (by simp) ?_
       refine AllReady.cons rfl (fun K hK=>?_) AllReady.nil
       go_simp
       go_wp2_with (first | (go_at_call 181;refine (may_any s v0 v1 v2 v3 P true _ HM.out).mono ?_;rintro e w1 ⟨rfl,hb1⟩;have R2:=below_pl hb1 R1;obtain ⟨x0,x1,x2,x3,x4,x5,x6,x7,x8,y0,y1,y2,z2'⟩:=HS.out _ R2;clear hb1))
       refine wpAny_ready (rs:=[3]) (by kernel_rfl) (by simp) ?_
       refine AllReady.cons rfl (fun K hK=>?_) AllReady.nil
       go_simp
       refine hK _ _ ?_
       clear hK K
       refine wpAny_ready (rs:=[4]) (by kernel_rfl) (by simp) ?_
       refine AllReady.cons rfl (fun K hK=>?_) AllReady.nil
       go_simp
       refine hK _ _ ?_
       clear hK K
       refine wpAny_ready (rs:=[5]) (by kernel_rfl) (by simp) ?_
       refine AllReady.cons rfl (fun K hK=>?_) AllReady.nil
       go_simp
       refine hK _ _ ?_
       clear hK K
       refine wpAny_ready (rs:=[6]) (by kernel_rfl) (by simp) ?_
       refine AllReady.cons rfl (fun K hK=>?_) AllReady.nil
       go_simp
       refine hK _ _ ?_
       clear hK K
       refine wpAny_ready (rs:=[7]) (by kernel_rfl) (by simp) ?_
       refine AllReady.cons rfl (fun K hK=>?_) AllReady.nil
       go_simp
       refine hK _ _ ?_
       clear hK K
       refine wpAny_take (i:=8) (v:=.slice (some ⟨bb,off,none⟩) n c) rfl (by kernel_rfl) (by kernel_rfl) (by kernel_rfl) (fun _ _ _ h=>h) (Or.inl ⟨by kernel_rfl,fun w=>by go_simp⟩) ?_
       refine wpAny_take (i:=9) (v:=.int .i64 ((j+1:Nat):Int)) rfl (by kernel_rfl) (by kernel_rfl) (by kernel_rfl) (fun _ _ _ h=>h) (Or.inl ⟨by kernel_rfl,fun w=>by go_simp⟩) ?_
       refine wpAny_take (i:=10) (v:=.int .i64 (j:Nat)) rfl (by kernel_rfl) (by kernel_rfl) (by kernel_rfl) (fun _ _ _ h=>h) (Or.inl ⟨by kernel_rfl,fun w=>by go_simp⟩) ?_
       refine wpAny_take (i:=11) (v:=.pointer (some ⟨bb,off+j*3,none⟩)) rfl (by kernel_rfl) (by kernel_rfl) (by kernel_rfl) (fun _ _ _ h=>h) (Or.inl ⟨by kernel_rfl,fun w=>by go_simp⟩) ?_
       refine wpAny_take (i:=12) (v:=.pointer (some ⟨bb,off+j*3+2,none⟩)) rfl (by kernel_rfl) (by kernel_rfl) (by kernel_rfl) (fun _ _ _ h=>h) (Or.inl ⟨by kernel_rfl,fun w=>by go_simp⟩) ?_
       refine wpAny_take (i:=14) (v:=.pointer (some ⟨wr.heap.size,1,none⟩)) rfl (by kernel_rfl) (by kernel_rfl) (by kernel_rfl) (fun _ _ _ h=>h) (Or.inl ⟨by kernel_rfl,fun w=>by go_simp⟩) ?_
       refine wpAny_ready (rs:=[13,15]) (by kernel_rfl) (by simp) ?_
       refine AllReady.cons rfl (fun K hK=>?_) (AllReady.cons rfl (fun K hK=>?_) AllReady.nil)
       ·go_simp
        refine hK _ _ ?_
        clear hK K
        refine wpAny_ready (rs:=[15]) (by kernel_rfl) (by simp) ?_
        refine AllReady.cons rfl (fun K hK=>?_) AllReady.nil
        go_simp
        refine hK _ _ ?_
        clear hK K
        refine wpAny_ready (rs:=[16]) (by kernel_rfl) (by simp) ?_
        refine AllReady.cons rfl (fun K hK=>?_) AllReady.nil
        go_simp
        refine hK _ _ ?_
        clear hK K
        refine wpAny_ready (rs:=[17]) (by kernel_rfl) (by simp) ?_
        refine AllReady.cons rfl (fun K hK=>?_) AllReady.nil
        go_simp
        refine hK _ _ ?_
        clear hK K
        refine wpAny_ready (rs:=[18]) (by kernel_rfl) (by simp) ?_
        refine AllReady.cons rfl (fun K hK=>?_) AllReady.nil
        go_simp
        refine hK _ _ ?_
        clear hK K
        refine wpAny_done (by kernel_rfl) ?_ _
        go_wp2
        go_roundw
        case rel=>exact ⟨j+1+1,by omega,by go_num,OK,below_pl R2 belW⟩
        case measure=>simp [intOf];omega
       ·go_simp
        refine hK _ _ ?_
        clear hK K
        refine wpAny_ready (rs:=[13]) (by kernel_rfl) (by simp) ?_
        refine AllReady.cons rfl (fun K hK=>?_) AllReady.nil
        go_simp
        refine hK _ _ ?_
        clear hK K
        refine wpAny_ready (rs:=[16]) (by kernel_rfl) (by simp) ?_
        refine AllReady.cons rfl (fun K hK=>?_) AllReady.nil
        go_simp
        refine hK _ _ ?_
        clear hK K
        refine wpAny_ready (rs:=[17]) (by kernel_rfl) (by simp) ?_
        refine AllReady.cons rfl (fun K hK=>?_) AllReady.nil
        go_simp
        refine hK _ _ ?_
        clear hK K
        refine wpAny_ready (rs:=[18]) (by kernel_rfl) (by simp) ?_
        refine AllReady.cons rfl (fun K hK=>?_) AllReady.nil
        go_simp
        refine hK _ _ ?_
        clear hK K
        refine wpAny_done (by kernel_rfl) ?_ _
        go_wp2
        go_roundw
        case rel=>exact ⟨j+1+1,by omega,by go_num,OK,below_pl R2 belW⟩
        case measure=>simp [intOf];omega
     ·have e:b=false:=by
       rw [HB.out,Bool.eq_false_iff]
       intro h
       have:=(Grain.fol_iff s l).1 h (j+1) hkl
       simp [Grain.okp,← HP.out,← HM.out,← hM,he] at this
      subst e
      have en:(M != P.f)=true:=by simp [he]
      clear HB HO HP hcell hM he
      have HS:Hid (∀ w',Below W.heap.size W w'→w'.cell? ⟨X,0,none⟩=some v0∧w'.cell? ⟨X,1,none⟩=some v1∧w'.cell? ⟨X,2,none⟩=some v2∧w'.cell? ⟨X,3,none⟩=some v3∧w'.cell? ⟨X,4,none⟩=some (.int .i64 s.rf)∧w'.cell? ⟨X,5,none⟩=some (.int .i64 s.ff)∧w'.cell? ⟨X,6,none⟩=some (.int .i64 s.ft)∧w'.cell? ⟨X,7,none⟩=some (.int .i64 s.cf)∧w'.cell? ⟨X,8,none⟩=some (.int .i64 s.ct)∧w'.cell? ⟨wr.heap.size,0,none⟩=some (.int .i64 P.k)∧w'.cell? ⟨wr.heap.size,1,none⟩=some (.int .i64 P.f)∧w'.cell? ⟨wr.heap.size,2,none⟩=some (.int .i64 P.t)∧w'.cell? ⟨bb,off+j*3+2,none⟩=some (.int .i64 M)):=fun w' hb'=>⟨(hb'.cell (by exact Xl)).trans x0,(hb'.cell (by exact Xl)).trans x1,(hb'.cell (by exact Xl)).trans x2,(hb'.cell (by exact Xl)).trans x3,(hb'.cell (by exact Xl)).trans x4,(hb'.cell (by exact Xl)).trans x5,(hb'.cell (by exact Xl)).trans x6,(hb'.cell (by exact Xl)).trans x7,(hb'.cell (by exact Xl)).trans x8,(hb'.cell (by exact Yl)).trans y0,(hb'.cell (by exact Yl)).trans y1,(hb'.cell (by exact Yl)).trans y2,(hb'.cell (by exact Bl)).trans z2'⟩
      have R1:Below W.heap.size W W.drew:=below_drewN (Below.refl _ _) 1
      have hw1:IntKind.i64.wrap ((j:Int)+1-1)=(j:Int):=by rw [IntKind.wrap_i64];omega
      have hw2:IntKind.i64.wrap (j:Int)=(j:Int):=by rw [IntKind.wrap_i64];omega
      have hj:(j:Int)<(n:Int):=by omega
      clear x0 x1 x2 x3 x4 x5 x6 x7 x8 y0 y1 y2
      obtain ⟨x0,x1,x2,x3,x4,x5,x6,x7,x8,y0,y1,y2,z2'⟩:=HS.out _ R1
      refine wp_region_any (by kernel_rfl) ?_
      try (change wpAny _ _ _ _ _ _ _ (World.drew _))
      refine wpAny_ready (rs:=[0,1]) (by kernel_rfl) (by simp) ?_
      refine AllReady.cons rfl (fun K hK=>?_) (AllReady.cons rfl (fun K hK=>?_) AllReady.nil)
      ·go_simp
       refine hK _ _ ?_
       clear hK K
       refine wpAny_ready (rs:=[1]) (by kernel_rfl) (by simp) ?_
       refine AllReady.cons rfl (fun K hK=>?_) AllReady.nil
       go_simp
       refine hK _ _ ?_
       clear hK K
       clear x0 x1 x2 x3 x4 x5 x6 x7 x8 y0 y1 y2 z2'
       refine wpAny_ready (rs:=[2]) (by kernel_rfl) (by simp) ?_
       refine AllReady.cons rfl (fun K hK=>?_) AllReady.nil
       go_simp
       go_wp2_with (first | (go_at_call 181;refine (may_any s v0 v1 v2 v3 P true _ HM.out).mono ?_;rintro e w1 ⟨rfl,hb1⟩;have R2:=below_pl hb1 R1;obtain ⟨x0,x1,x2,x3,x4,x5,x6,x7,x8,y0,y1,y2,z2'⟩:=HS.out _ R2;clear hb1))
       refine wpAny_ready (rs:=[3]) (by kernel_rfl) (by simp) ?_
       refine AllReady.cons rfl (fun K hK=>?_) AllReady.nil
       go_simp
       refine hK _ _ ?_
       clear hK K
       refine wpAny_ready (rs:=[4]) (by kernel_rfl) (by simp) ?_
       refine AllReady.cons rfl (fun K hK=>?_) AllReady.nil
       go_simp
       refine hK _ _ ?_
       clear hK K
       refine wpAny_ready (rs:=[5]) (by kernel_rfl) (by simp) ?_
       refine AllReady.cons rfl (fun K hK=>?_) AllReady.nil
       go_simp
       refine hK _ _ ?_
       clear hK K
       refine wpAny_ready (rs:=[6]) (by kernel_rfl) (by simp) ?_
       refine AllReady.cons rfl (fun K hK=>?_) AllReady.nil
       go_simp
       refine hK _ _ ?_
       clear hK K
       refine wpAny_ready (rs:=[7]) (by kernel_rfl) (by simp) ?_
       refine AllReady.cons rfl (fun K hK=>?_) AllReady.nil
       go_simp
       refine hK _ _ ?_
       clear hK K
       refine wpAny_take (i:=8) (v:=.slice (some ⟨bb,off,none⟩) n c) rfl (by kernel_rfl) (by kernel_rfl) (by kernel_rfl) (fun _ _ _ h=>h) (Or.inl ⟨by kernel_rfl,fun w=>by go_simp⟩) ?_
       refine wpAny_take (i:=9) (v:=.int .i64 ((j+1:Nat):Int)) rfl (by kernel_rfl) (by kernel_rfl) (by kernel_rfl) (fun _ _ _ h=>h) (Or.inl ⟨by kernel_rfl,fun w=>by go_simp⟩) ?_
       refine wpAny_take (i:=10) (v:=.int .i64 (j:Nat)) rfl (by kernel_rfl) (by kernel_rfl) (by kernel_rfl) (fun _ _ _ h=>h) (Or.inl ⟨by kernel_rfl,fun w=>by go_simp⟩) ?_
       refine wpAny_take (i:=11) (v:=.pointer (some ⟨bb,off+j*3,none⟩)) rfl (by kernel_rfl) (by kernel_rfl) (by kernel_rfl) (fun _ _ _ h=>h) (Or.inl ⟨by kernel_rfl,fun w=>by go_simp⟩) ?_
       refine wpAny_take (i:=12) (v:=.pointer (some ⟨bb,off+j*3+2,none⟩)) rfl (by kernel_rfl) (by kernel_rfl) (by kernel_rfl) (fun _ _ _ h=>h) (Or.inl ⟨by kernel_rfl,fun w=>by go_simp⟩) ?_
       refine wpAny_take (i:=14) (v:=.pointer (some ⟨wr.heap.size,1,none⟩)) rfl (by kernel_rfl) (by kernel_rfl) (by kernel_rfl) (fun _ _ _ h=>h) (Or.inl ⟨by kernel_rfl,fun w=>by go_simp⟩) ?_
       refine wpAny_ready (rs:=[13,15]) (by kernel_rfl) (by simp) ?_
       refine AllReady.cons rfl (fun K hK=>?_) (AllReady.cons rfl (fun K hK=>?_) AllReady.nil)
       ·go_simp
        refine hK _ _ ?_
        clear hK K
        refine wpAny_ready (rs:=[15]) (by kernel_rfl) (by simp) ?_
        refine AllReady.cons rfl (fun K hK=>?_) AllReady.nil
        go_simp
        refine hK _ _ ?_
        clear hK K
        refine wpAny_ready (rs:=[16]) (by kernel_rfl) (by simp) ?_
        refine AllReady.cons rfl (fun K hK=>?_) AllReady.nil
        go_simp
        refine hK _ _ ?_
        clear hK K
        refine wpAny_ready (rs:=[17]) (by kernel_rfl) (by simp) ?_
        refine AllReady.cons rfl (fun K hK=>?_) AllReady.nil
        go_simp
        refine hK _ _ ?_
        clear hK K
        refine wpAny_ready (rs:=[18]) (by kernel_rfl) (by simp) ?_
        refine AllReady.cons rfl (fun K hK=>?_) AllReady.nil
        go_simp
        refine hK _ _ ?_
        clear hK K
        refine wpAny_done (by kernel_rfl) ?_ _
        go_wp2
        go_ret
        exact ⟨rfl,by rw [← HX.out];exact bel.trans ((below_pl R2 belW).mono hXV)⟩
       ·go_simp
        refine hK _ _ ?_
        clear hK K
        refine wpAny_ready (rs:=[13]) (by kernel_rfl) (by simp) ?_
        refine AllReady.cons rfl (fun K hK=>?_) AllReady.nil
        go_simp
        refine hK _ _ ?_
        clear hK K
        refine wpAny_ready (rs:=[16]) (by kernel_rfl) (by simp) ?_
        refine AllReady.cons rfl (fun K hK=>?_) AllReady.nil
        go_simp
        refine hK _ _ ?_
        clear hK K
        refine wpAny_ready (rs:=[17]) (by kernel_rfl) (by simp) ?_
        refine AllReady.cons rfl (fun K hK=>?_) AllReady.nil
        go_simp
        refine hK _ _ ?_
        clear hK K
        refine wpAny_ready (rs:=[18]) (by kernel_rfl) (by simp) ?_
        refine AllReady.cons rfl (fun K hK=>?_) AllReady.nil
        go_simp
        refine hK _ _ ?_
        clear hK K
        refine wpAny_done (by kernel_rfl) ?_ _
        go_wp2
        go_ret
        exact ⟨rfl,by rw [← HX.out];exact bel.trans ((below_pl R2 belW).mono hXV)⟩
      ·go_simp
       refine hK _ _ ?_
       clear hK K
       refine wpAny_ready (rs:=[0]) (by kernel_rfl) (by simp) ?_
       refine AllReady.cons rfl (fun K hK=>?_) AllReady.nil
       go_simp
       refine hK _ _ ?_
       clear hK K
       clear x0 x1 x2 x3 x4 x5 x6 x7 x8 y0 y1 y2 z2'
       refine wpAny_ready (rs:=[2]) (by kernel_rfl) (by simp) ?_
       refine AllReady.cons rfl (fun K hK=>?_) AllReady.nil
       go_simp
       go_wp2_with (first | (go_at_call 181;refine (may_any s v0 v1 v2 v3 P true _ HM.out).mono ?_;rintro e w1 ⟨rfl,hb1⟩;have R2:=below_pl hb1 R1;obtain ⟨x0,x1,x2,x3,x4,x5,x6,x7,x8,y0,y1,y2,z2'⟩:=HS.out _ R2;clear hb1))
       refine wpAny_ready (rs:=[3]) (by kernel_rfl) (by simp) ?_
       refine AllReady.cons rfl (fun K hK=>?_) AllReady.nil
       go_simp
       refine hK _ _ ?_
       clear hK K
       refine wpAny_ready (rs:=[4]) (by kernel_rfl) (by simp) ?_
       refine AllReady.cons rfl (fun K hK=>?_) AllReady.nil
       go_simp
       refine hK _ _ ?_
       clear hK K
       refine wpAny_ready (rs:=[5]) (by kernel_rfl) (by simp) ?_
       refine AllReady.cons rfl (fun K hK=>?_) AllReady.nil
       go_simp
       refine hK _ _ ?_
       clear hK K
       refine wpAny_ready (rs:=[6]) (by kernel_rfl) (by simp) ?_
       refine AllReady.cons rfl (fun K hK=>?_) AllReady.nil
       go_simp
       refine hK _ _ ?_
       clear hK K
       refine wpAny_ready (rs:=[7]) (by kernel_rfl) (by simp) ?_
       refine AllReady.cons rfl (fun K hK=>?_) AllReady.nil
       go_simp
       refine hK _ _ ?_
       clear hK K
       refine wpAny_take (i:=8) (v:=.slice (some ⟨bb,off,none⟩) n c) rfl (by kernel_rfl) (by kernel_rfl) (by kernel_rfl) (fun _ _ _ h=>h) (Or.inl ⟨by kernel_rfl,fun w=>by go_simp⟩) ?_
       refine wpAny_take (i:=9) (v:=.int .i64 ((j+1:Nat):Int)) rfl (by kernel_rfl) (by kernel_rfl) (by kernel_rfl) (fun _ _ _ h=>h) (Or.inl ⟨by kernel_rfl,fun w=>by go_simp⟩) ?_
       refine wpAny_take (i:=10) (v:=.int .i64 (j:Nat)) rfl (by kernel_rfl) (by kernel_rfl) (by kernel_rfl) (fun _ _ _ h=>h) (Or.inl ⟨by kernel_rfl,fun w=>by go_simp⟩) ?_
       refine wpAny_take (i:=11) (v:=.pointer (some ⟨bb,off+j*3,none⟩)) rfl (by kernel_rfl) (by kernel_rfl) (by kernel_rfl) (fun _ _ _ h=>h) (Or.inl ⟨by kernel_rfl,fun w=>by go_simp⟩) ?_
       refine wpAny_take (i:=12) (v:=.pointer (some ⟨bb,off+j*3+2,none⟩)) rfl (by kernel_rfl) (by kernel_rfl) (by kernel_rfl) (fun _ _ _ h=>h) (Or.inl ⟨by kernel_rfl,fun w=>by go_simp⟩) ?_
       refine wpAny_take (i:=14) (v:=.pointer (some ⟨wr.heap.size,1,none⟩)) rfl (by kernel_rfl) (by kernel_rfl) (by kernel_rfl) (fun _ _ _ h=>h) (Or.inl ⟨by kernel_rfl,fun w=>by go_simp⟩) ?_
       refine wpAny_ready (rs:=[13,15]) (by kernel_rfl) (by simp) ?_
       refine AllReady.cons rfl (fun K hK=>?_) (AllReady.cons rfl (fun K hK=>?_) AllReady.nil)
       ·go_simp
        refine hK _ _ ?_
        clear hK K
        refine wpAny_ready (rs:=[15]) (by kernel_rfl) (by simp) ?_
        refine AllReady.cons rfl (fun K hK=>?_) AllReady.nil
        go_simp
        refine hK _ _ ?_
        clear hK K
        refine wpAny_ready (rs:=[16]) (by kernel_rfl) (by simp) ?_
        refine AllReady.cons rfl (fun K hK=>?_) AllReady.nil
        go_simp
        refine hK _ _ ?_
        clear hK K
        refine wpAny_ready (rs:=[17]) (by kernel_rfl) (by simp) ?_
        refine AllReady.cons rfl (fun K hK=>?_) AllReady.nil
        go_simp
        refine hK _ _ ?_
        clear hK K
        refine wpAny_ready (rs:=[18]) (by kernel_rfl) (by simp) ?_
        refine AllReady.cons rfl (fun K hK=>?_) AllReady.nil
        go_simp
        refine hK _ _ ?_
        clear hK K
        refine wpAny_done (by kernel_rfl) ?_ _
        go_wp2
        go_ret
        exact ⟨rfl,by rw [← HX.out];exact bel.trans ((below_pl R2 belW).mono hXV)⟩
       ·go_simp
        refine hK _ _ ?_
        clear hK K
        refine wpAny_ready (rs:=[13]) (by kernel_rfl) (by simp) ?_
        refine AllReady.cons rfl (fun K hK=>?_) AllReady.nil
        go_simp
        refine hK _ _ ?_
        clear hK K
        refine wpAny_ready (rs:=[16]) (by kernel_rfl) (by simp) ?_
        refine AllReady.cons rfl (fun K hK=>?_) AllReady.nil
        go_simp
        refine hK _ _ ?_
        clear hK K
        refine wpAny_ready (rs:=[17]) (by kernel_rfl) (by simp) ?_
        refine AllReady.cons rfl (fun K hK=>?_) AllReady.nil
        go_simp
        refine hK _ _ ?_
        clear hK K
        refine wpAny_ready (rs:=[18]) (by kernel_rfl) (by simp) ?_
        refine AllReady.cons rfl (fun K hK=>?_) AllReady.nil
        go_simp
        refine hK _ _ ?_
        clear hK K
        refine wpAny_done (by kernel_rfl) ?_ _
        go_wp2
        go_ret
        exact ⟨rfl,by rw [← HX.out];exact bel.trans ((below_pl R2 belW).mono hXV)⟩
  ·have e:b=true:=by
    rw [HB.out,Grain.fol_iff]
    intro i hi
    exact HO.out i (by have:=HN.out;omega)
   subst e
   go_wp2
   go_ret
   exact ⟨rfl,by rw [← HX.out];exact bel.trans (belr.mono hXV)⟩
open Go.RowKit Go.GrainU
theorem three_thaw {w:World} {B:Nat} {x0 x1 x2:Value} {t:TypeId} (h:w.heap[B]?=some (.cells #[x0,x1,x2] t (0,0))) :
  w.frozen? ⟨B,0,none⟩=false∧w.frozen? ⟨B,1,none⟩=false∧w.frozen? ⟨B,2,none⟩=false:=by
 simp [World.frozen?,h]
theorem below_set3 {w W:World} {A C:Nat} (bel:Below A w W) (hC:A≤C) (u0 u1 u2:Value):Below A w (((W.setCell ⟨C,0,none⟩ u0).setCell ⟨C,1,none⟩ u1).setCell ⟨C,2,none⟩ u2) :=
 ((bel.setCell hC u0).setCell hC u1).setCell hC u2
set_option maxRecDepth 20000 in
set_option maxHeartbeats 4000000 in
theorem buckets2_any (s:Grain.Shf) (v0 v1 v2 v3:Value) (a t:Int) (p:Grain.Pt) (w:World) (ha:0≤a) (hat:a≤1000000) (h0:0≤t) (ht:t≤1000000) (hc0:0≤s.cf) (hc1:s.cf≤1000000) (hc2:0≤s.ct) (hc3:s.ct≤1000000) (hp:p=Grain.bks 2 s.cf s.ct 60 a t) :
  Calls Tryz.prog 210 #[.agg #[v0,v1,v2,v3,.int .i64 s.rf,.int .i64 s.ff,.int .i64 s.ft,.int .i64 s.cf,.int .i64 s.ct],.int .i64 2,.int .i64 a,.int .i64 t] w fun e w'=>e=.returned (.agg #[.int .i64 p.k,.int .i64 p.f,.int .i64 p.t])∧Below w.heap.size w w':=by
 have HP:=hide hp
 clear hp
 obtain ⟨X,hX⟩:∃ X,X=w.heap.size:=⟨_,rfl⟩
 obtain ⟨V,hV⟩:∃ V,V=(w.alloc (.cells #[v0,v1,v2,v3,.int .i64 s.rf,.int .i64 s.ff,.int .i64 s.ft,.int .i64 s.cf,.int .i64 s.ct] 59)).alloc (.cells #[.int .i64 0,.int .i64 0,.int .i64 0] 235):=⟨_,rfl⟩
 have bel:Below w.heap.size w V:=by rw [hV];exact ((Below.refl _ _).alloc (Nat.le_refl _) _).alloc (by simp) _
 have S0:V.heap[X]?=some (sbl v0 v1 v2 v3 s):=by rw [hV,hX,Below.heap_alloc _ _ _ (by simp)];exact heap_alloc_new w _
 have Z0:V.heap[X+1]?=some (.cells #[.int .i64 0,.int .i64 0,.int .i64 0] 235 (0,0)):=by
  rw [hV,hX];have:=heap_alloc_new (w.alloc (.cells #[v0,v1,v2,v3,.int .i64 s.rf,.int .i64 s.ff,.int .i64 s.ft,.int .i64 s.cf,.int .i64 s.ct] 59)) (.cells #[.int .i64 0,.int .i64 0,.int .i64 0] 235);rwa [World.size_alloc] at this
 have HV:=hide hV
 have HX:=hide hX
 obtain ⟨x0,x1,x2,x3,x4,x5,x6,x7,x8⟩:=nine9 S0
 obtain ⟨z0,z1,z2⟩:=three3 Z0
 obtain ⟨f0,f1,f2⟩:=three_thaw Z0
 clear hV hX
 go_enter Tryz.func210,Tryz.ntmps210
 go_wp2_with fail
 rw [← HV.out,← HX.out]
 go_quiet (fail)
 go_wp2_with fail
 go_quiet (fail)
 go_wp2_with fail
 refine (step_any _ _).mono ?_
 rintro e w1 ⟨rfl,rfl⟩
 simp only [stepOf]
 go_wp2_with fail
 go_region
 all_goals go_wp2_with fail
 all_goals
  first
   | (have e1:max a s.cf=a:=(by omega);have e2:min t s.ct=t:=(by omega);have e:p=⟨2,(a+60-1) / 60*60,t / 60*60⟩:=(by rw [HP.out];unfold Grain.bks;rw [e1,e2]);subst e;exact bodyPost_ret (v:=.agg #[.int .i64 2,.int .i64 ((a+60-1) / 60*60),.int .i64 (t / 60*60)]) (by simp [results,Tryz.results210,go_sem,z0,z1,z2]) rfl ⟨rfl,below_set3 (below_drewN bel _) (by have:=HX.out;omega) _ _ _⟩)
   | (have e1:max a s.cf=a:=(by omega);have e2:min t s.ct=s.ct:=(by omega);have e:p=⟨2,(a+60-1) / 60*60,s.ct / 60*60⟩:=(by rw [HP.out];unfold Grain.bks;rw [e1,e2]);subst e;exact bodyPost_ret (v:=.agg #[.int .i64 2,.int .i64 ((a+60-1) / 60*60),.int .i64 (s.ct / 60*60)]) (by simp [results,Tryz.results210,go_sem,z0,z1,z2]) rfl ⟨rfl,below_set3 (below_drewN bel _) (by have:=HX.out;omega) _ _ _⟩)
   | (have e1:max a s.cf=s.cf:=(by omega);have e2:min t s.ct=t:=(by omega);have e:p=⟨2,(s.cf+60-1) / 60*60,t / 60*60⟩:=(by rw [HP.out];unfold Grain.bks;rw [e1,e2]);subst e;exact bodyPost_ret (v:=.agg #[.int .i64 2,.int .i64 ((s.cf+60-1) / 60*60),.int .i64 (t / 60*60)]) (by simp [results,Tryz.results210,go_sem,z0,z1,z2]) rfl ⟨rfl,below_set3 (below_drewN bel _) (by have:=HX.out;omega) _ _ _⟩)
   | (have e1:max a s.cf=s.cf:=(by omega);have e2:min t s.ct=s.ct:=(by omega);have e:p=⟨2,(s.cf+60-1) / 60*60,s.ct / 60*60⟩:=(by rw [HP.out];unfold Grain.bks;rw [e1,e2]);subst e;exact bodyPost_ret (v:=.agg #[.int .i64 2,.int .i64 ((s.cf+60-1) / 60*60),.int .i64 (s.ct / 60*60)]) (by simp [results,Tryz.results210,go_sem,z0,z1,z2]) rfl ⟨rfl,below_set3 (below_drewN bel _) (by have:=HX.out;omega) _ _ _⟩)
set_option maxRecDepth 20000 in
set_option maxHeartbeats 4000000 in
theorem buckets1_any (s:Grain.Shf) (v0 v1 v2 v3:Value) (a t:Int) (p:Grain.Pt) (w:World) (ha:0≤a) (hat:a≤1000000) (h0:0≤t) (ht:t≤1000000) (hc0:0≤s.ff) (hc1:s.ff≤1000000) (hc2:0≤s.ft) (hc3:s.ft≤1000000) (hp:p=Grain.bks 1 s.ff s.ft 10 a t) :
  Calls Tryz.prog 210 #[.agg #[v0,v1,v2,v3,.int .i64 s.rf,.int .i64 s.ff,.int .i64 s.ft,.int .i64 s.cf,.int .i64 s.ct],.int .i64 1,.int .i64 a,.int .i64 t] w fun e w'=>e=.returned (.agg #[.int .i64 p.k,.int .i64 p.f,.int .i64 p.t])∧Below w.heap.size w w':=by
 have HP:=hide hp
 clear hp
 obtain ⟨X,hX⟩:∃ X,X=w.heap.size:=⟨_,rfl⟩
 obtain ⟨V,hV⟩:∃ V,V=(w.alloc (.cells #[v0,v1,v2,v3,.int .i64 s.rf,.int .i64 s.ff,.int .i64 s.ft,.int .i64 s.cf,.int .i64 s.ct] 59)).alloc (.cells #[.int .i64 0,.int .i64 0,.int .i64 0] 235):=⟨_,rfl⟩
 have bel:Below w.heap.size w V:=by rw [hV];exact ((Below.refl _ _).alloc (Nat.le_refl _) _).alloc (by simp) _
 have S0:V.heap[X]?=some (sbl v0 v1 v2 v3 s):=by rw [hV,hX,Below.heap_alloc _ _ _ (by simp)];exact heap_alloc_new w _
 have Z0:V.heap[X+1]?=some (.cells #[.int .i64 0,.int .i64 0,.int .i64 0] 235 (0,0)):=by
  rw [hV,hX];have:=heap_alloc_new (w.alloc (.cells #[v0,v1,v2,v3,.int .i64 s.rf,.int .i64 s.ff,.int .i64 s.ft,.int .i64 s.cf,.int .i64 s.ct] 59)) (.cells #[.int .i64 0,.int .i64 0,.int .i64 0] 235);rwa [World.size_alloc] at this
 have HV:=hide hV
 have HX:=hide hX
 obtain ⟨x0,x1,x2,x3,x4,x5,x6,x7,x8⟩:=nine9 S0
 obtain ⟨z0,z1,z2⟩:=three3 Z0
 obtain ⟨f0,f1,f2⟩:=three_thaw Z0
 clear hV hX
 go_enter Tryz.func210,Tryz.ntmps210
 go_wp2_with fail
 rw [← HV.out,← HX.out]
 go_quiet (fail)
 go_wp2_with fail
 refine (step_any _ _).mono ?_
 rintro e w1 ⟨rfl,rfl⟩
 simp only [stepOf]
 go_wp2_with fail
 go_region
 all_goals go_wp2_with fail
 all_goals
  first
   | (have e1:max a s.ff=a:=(by omega);have e2:min t s.ft=t:=(by omega);have e:p=⟨1,(a+10-1) / 10*10,t / 10*10⟩:=(by rw [HP.out];unfold Grain.bks;rw [e1,e2]);subst e;exact bodyPost_ret (v:=.agg #[.int .i64 1,.int .i64 ((a+10-1) / 10*10),.int .i64 (t / 10*10)]) (by simp [results,Tryz.results210,go_sem,z0,z1,z2]) rfl ⟨rfl,below_set3 (below_drewN bel _) (by have:=HX.out;omega) _ _ _⟩)
   | (have e1:max a s.ff=a:=(by omega);have e2:min t s.ft=s.ft:=(by omega);have e:p=⟨1,(a+10-1) / 10*10,s.ft / 10*10⟩:=(by rw [HP.out];unfold Grain.bks;rw [e1,e2]);subst e;exact bodyPost_ret (v:=.agg #[.int .i64 1,.int .i64 ((a+10-1) / 10*10),.int .i64 (s.ft / 10*10)]) (by simp [results,Tryz.results210,go_sem,z0,z1,z2]) rfl ⟨rfl,below_set3 (below_drewN bel _) (by have:=HX.out;omega) _ _ _⟩)
   | (have e1:max a s.ff=s.ff:=(by omega);have e2:min t s.ft=t:=(by omega);have e:p=⟨1,(s.ff+10-1) / 10*10,t / 10*10⟩:=(by rw [HP.out];unfold Grain.bks;rw [e1,e2]);subst e;exact bodyPost_ret (v:=.agg #[.int .i64 1,.int .i64 ((s.ff+10-1) / 10*10),.int .i64 (t / 10*10)]) (by simp [results,Tryz.results210,go_sem,z0,z1,z2]) rfl ⟨rfl,below_set3 (below_drewN bel _) (by have:=HX.out;omega) _ _ _⟩)
   | (have e1:max a s.ff=s.ff:=(by omega);have e2:min t s.ft=s.ft:=(by omega);have e:p=⟨1,(s.ff+10-1) / 10*10,s.ft / 10*10⟩:=(by rw [HP.out];unfold Grain.bks;rw [e1,e2]);subst e;exact bodyPost_ret (v:=.agg #[.int .i64 1,.int .i64 ((s.ff+10-1) / 10*10),.int .i64 (s.ft / 10*10)]) (by simp [results,Tryz.results210,go_sem,z0,z1,z2]) rfl ⟨rfl,below_set3 (below_drewN bel _) (by have:=HX.out;omega) _ _ _⟩)
set_option maxRecDepth 20000 in
set_option maxHeartbeats 4000000 in
theorem next_any (s:Grain.Shf) (v0 v1 v2 v3:Value) (a t:Int) (p:Grain.Pt) (w:World) (sr:Grain.SR s) (ha:0≤a) (hat:a<t) (ht:t≤1000000) (hp:p=Grain.nxr s a t) :
  Calls Tryz.prog 180 #[.agg #[v0,v1,v2,v3,.int .i64 s.rf,.int .i64 s.ff,.int .i64 s.ft,.int .i64 s.cf,.int .i64 s.ct],.int .i64 a,.int .i64 t] w fun e w'=>e=.returned (.agg #[.int .i64 p.k,.int .i64 p.f,.int .i64 p.t])∧Below w.heap.size w w':=by
 have HP:=hide hp
 obtain ⟨sf1,sf2,sf3,sf4,sf5⟩:=sr.fsp
 obtain ⟨sc1,sc2,sc3,sc4,sc5⟩:=sr.csp
 clear hp sr
 obtain ⟨X,hX⟩:∃ X,X=w.heap.size:=⟨_,rfl⟩
 obtain ⟨V,hV⟩:∃ V,V=(w.alloc (.cells #[v0,v1,v2,v3,.int .i64 s.rf,.int .i64 s.ff,.int .i64 s.ft,.int .i64 s.cf,.int .i64 s.ct] 59)).alloc (.cells #[.int .i64 0,.int .i64 0,.int .i64 0] 235):=⟨_,rfl⟩
 have bel:Below X w V:=by rw [hV,hX];exact ((Below.refl _ _).alloc (Nat.le_refl _) _).alloc (by simp) _
 have S0:V.heap[X]?=some (sbl v0 v1 v2 v3 s):=by rw [hV,hX,Below.heap_alloc _ _ _ (by simp)];exact heap_alloc_new w _
 have Z0:V.heap[X+1]?=some (.cells #[.int .i64 0,.int .i64 0,.int .i64 0] 235 (0,0)):=by
  rw [hV,hX];have:=heap_alloc_new (w.alloc (.cells #[v0,v1,v2,v3,.int .i64 s.rf,.int .i64 s.ff,.int .i64 s.ft,.int .i64 s.cf,.int .i64 s.ct] 59)) (.cells #[.int .i64 0,.int .i64 0,.int .i64 0] 235);rwa [World.size_alloc] at this
 have hXV:X≤V.heap.size:=by rw [hX];exact bel.size
 have HV:=hide hV
 have HX:=hide hX
 clear hV hX
 have hi0:∀ w,Sem.run Tryz.prog (Instr.index 262 (Value.agg #[.int .i64 2,.int .i64 1]) (.int .i64 0)) w=.ok (.int .i64 2) w:=fun w=>by
  simp [Instr.index,run_underlying Tryz.underlying262,asIntOf,go_sem]
 have hi1:∀ w,Sem.run Tryz.prog (Instr.index 262 (Value.agg #[.int .i64 2,.int .i64 1]) (.int .i64 1)) w=.ok (.int .i64 1) w:=fun w=>by
  simp [Instr.index,run_underlying Tryz.underlying262,asIntOf,go_sem]
 go_enter Tryz.func180,Tryz.ntmps180
 go_wp2
 rw [← HV.out,← HX.out]
 go_loopw [2,11] (fun b i wr=>Below V.heap.size V wr∧(i=.int .i64 0∧b=.int .i64 t∨i=.int .i64 1∧(∃ e:Int,b=.int .i64 e∧a<e∧e≤1000000∧Hid (p=Grain.nx2 s a e))∨i=.int .i64 2∧∃ e:Int,b=.int .i64 e∧Hid (p=⟨0,a,e⟩))) (fun _ i _=>2-(intOf i).toNat)
 case atStart=>exact ⟨Below.refl _ _,.inl ⟨rfl,rfl⟩⟩
 case round =>
  obtain ⟨belr,hcase⟩:=hrel
  have S1:=below_block belr S0
  have Z1:=below_block belr Z0
  obtain ⟨x0,x1,x2,x3,x4,x5,x6,x7,x8⟩:=nine9 S1
  have Xl:X<wr.heap.size:=lt_of_block S1
  have Xl1:X+1<wr.heap.size:=lt_of_block Z1
  rcases hcase with ⟨rfl,rfl⟩ | ⟨rfl,e,rfl,he1,he2,HE⟩ | ⟨rfl,e,rfl,HE⟩
  ·obtain ⟨c,hc⟩:∃ c,c=Grain.bks 2 s.cf s.ct 60 a t:=⟨_,rfl⟩
   have hcb:a≤c.f∧(c.f<c.t→c.t≤t):=by rw [hc];unfold Grain.bks;simp only;omega
   have HCALL:=hide (buckets2_any s v0 v1 v2 v3 a t c wr ha (by omega) (by omega) ht (by omega) (by omega) (by omega) (by omega) hc)
   have HCC:=hide hc
   clear hc
   go_wp2_with fail
   refine HCALL.out.mono ?_
   rintro q w1 ⟨rfl,hb1⟩
   obtain ⟨W,hW⟩:∃ W,W=w1.alloc (.cells #[.int .i64 c.k,.int .i64 c.f,.int .i64 c.t] 235):=⟨_,rfl⟩
   have hbW:Below w1.heap.size w1 W:=by rw [hW];exact (Below.refl _ _).alloc (Nat.le_refl _) _
   have belW:Below V.heap.size V W:=below_pl hbW (below_pl hb1 belr)
   have P0:W.heap[w1.heap.size]?=some (.cells #[.int .i64 c.k,.int .i64 c.f,.int .i64 c.t] 235 (0,0)):=by rw [hW];exact heap_alloc_new w1 _
   have Z2:=below_block belW Z0
   have P0':=P0
   rw [hW] at P0'
   have Z2':=Z2
   rw [hW] at Z2'
   obtain ⟨y0,y1,y2⟩:=three3 P0'
   obtain ⟨z0,z1,z2⟩:=three3 Z2'
   obtain ⟨f0,f1,f2⟩:=three_thaw Z2'
   have HW:=hide hW
   clear hW x0 x1 x2 x3 x4 x5 x6 x7 x8 hb1 hbW P0' Z2' HCALL
   by_cases h1:c.t≤c.f
   ·have HN:Hid (p=Grain.nx2 s a t):=by show _=_;rw [HP.out];unfold Grain.nxr;rw [← HCC.out,if_pos h1]
    go_wp2_with fail
    go_roundw
    case rel=>rw [← HW.out];exact ⟨belW,.inr (.inl ⟨rfl,t,rfl,hat,ht,HN⟩)⟩
    case measure=>simp [intOf]
   ·by_cases h2:c.f=a
    ·have hpe:p=c:=by rw [HP.out];unfold Grain.nxr;rw [← HCC.out,if_neg h1,if_pos h2]
     have e2:(c.f == a)=true:=by rw [h2];simp
     have HPC:=hide hpe
     have HA:=hide h2
     have HFIN:Hid (Below w.heap.size w (((W.setCell ⟨X+1,0,none⟩ (.int .i64 c.k)).setCell ⟨X+1,1,none⟩ (.int .i64 c.f)).setCell ⟨X+1,2,none⟩ (.int .i64 c.t))):=by rw [← HX.out];exact below_set3 (bel.trans (belW.mono hXV)) (Nat.le_succ _) _ _ _
     rw [HW.out] at HFIN
     clear h2 hpe
     go_wp2
     exact bodyPost_ret (v:=.agg #[.int .i64 c.k,.int .i64 c.f,.int .i64 c.t]) (by simp [results,Tryz.results180,go_sem,z0,z1,z2]) rfl ⟨by rw [HPC.out],HFIN.out⟩
    ·have e2:(c.f == a)=false:=by simpa using h2
     have HN:Hid (p=Grain.nx2 s a c.f):=by show _=_;rw [HP.out];unfold Grain.nxr;rw [← HCC.out,if_neg h1,if_neg h2]
     have hlt:a<c.f:=by omega
     have hle:c.f≤1000000:=by have:=hcb.2 (by omega);omega
     clear h2
     go_wp2_with fail
     go_roundw
     case rel=>rw [← HW.out];exact ⟨belW,.inr (.inl ⟨rfl,c.f,rfl,hlt,hle,HN⟩)⟩
     case measure=>simp [intOf]
  ·obtain ⟨c,hc⟩:∃ c,c=Grain.bks 1 s.ff s.ft 10 a e:=⟨_,rfl⟩
   have hcb:a≤c.f∧(c.f<c.t→c.t≤e):=by rw [hc];unfold Grain.bks;simp only;omega
   have HCALL:=hide (buckets1_any s v0 v1 v2 v3 a e c wr ha (by omega) (by omega) he2 (by omega) (by omega) (by omega) (by omega) hc)
   have HCC:=hide hc
   clear hc
   go_wp2_with fail
   refine HCALL.out.mono ?_
   rintro q w1 ⟨rfl,hb1⟩
   obtain ⟨W,hW⟩:∃ W,W=w1.alloc (.cells #[.int .i64 c.k,.int .i64 c.f,.int .i64 c.t] 235):=⟨_,rfl⟩
   have hbW:Below w1.heap.size w1 W:=by rw [hW];exact (Below.refl _ _).alloc (Nat.le_refl _) _
   have belW:Below V.heap.size V W:=below_pl hbW (below_pl hb1 belr)
   have P0:W.heap[w1.heap.size]?=some (.cells #[.int .i64 c.k,.int .i64 c.f,.int .i64 c.t] 235 (0,0)):=by rw [hW];exact heap_alloc_new w1 _
   have Z2:=below_block belW Z0
   have P0':=P0
   rw [hW] at P0'
   have Z2':=Z2
   rw [hW] at Z2'
   obtain ⟨y0,y1,y2⟩:=three3 P0'
   obtain ⟨z0,z1,z2⟩:=three3 Z2'
   obtain ⟨f0,f1,f2⟩:=three_thaw Z2'
   have HW:=hide hW
   clear hW x0 x1 x2 x3 x4 x5 x6 x7 x8 hb1 hbW P0' Z2' HCALL
   by_cases h1:c.t≤c.f
   ·have HN:Hid (p=⟨0,a,e⟩):=by show _=_;rw [HE.out];unfold Grain.nx2;rw [← HCC.out,if_pos h1]
    go_wp2_with fail
    go_roundw
    case rel=>rw [← HW.out];exact ⟨belW,.inr (.inr ⟨rfl,e,rfl,HN⟩)⟩
    case measure=>simp [intOf]
   ·by_cases h2:c.f=a
    ·have hpe:p=c:=by rw [HE.out];unfold Grain.nx2;rw [← HCC.out,if_neg h1,if_pos h2]
     have e2:(c.f == a)=true:=by rw [h2];simp
     have HPC:=hide hpe
     have HA:=hide h2
     have HFIN:Hid (Below w.heap.size w (((W.setCell ⟨X+1,0,none⟩ (.int .i64 c.k)).setCell ⟨X+1,1,none⟩ (.int .i64 c.f)).setCell ⟨X+1,2,none⟩ (.int .i64 c.t))):=by rw [← HX.out];exact below_set3 (bel.trans (belW.mono hXV)) (Nat.le_succ _) _ _ _
     rw [HW.out] at HFIN
     clear h2 hpe
     go_wp2
     exact bodyPost_ret (v:=.agg #[.int .i64 c.k,.int .i64 c.f,.int .i64 c.t]) (by simp [results,Tryz.results180,go_sem,z0,z1,z2]) rfl ⟨by rw [HPC.out],HFIN.out⟩
    ·have e2:(c.f == a)=false:=by simpa using h2
     have HN:Hid (p=⟨0,a,c.f⟩):=by show _=_;rw [HE.out];unfold Grain.nx2;rw [← HCC.out,if_neg h1,if_neg h2]
     clear h2
     go_wp2_with fail
     go_roundw
     case rel=>rw [← HW.out];exact ⟨belW,.inr (.inr ⟨rfl,c.f,rfl,HN⟩)⟩
     case measure=>simp [intOf]
  ·have hpe:=HE.out
   subst hpe
   obtain ⟨z0,z1,z2⟩:=three3 Z1
   obtain ⟨f0,f1,f2⟩:=three_thaw Z1
   clear HE HP
   go_wp2
   exact bodyPost_ret (v:=.agg #[.int .i64 0,.int .i64 a,.int .i64 e]) (by simp [results,Tryz.results180,go_sem,z0,z1,z2]) rfl ⟨rfl,by rw [← HX.out];exact below_set3 (bel.trans (belr.mono hXV)) (Nat.le_succ _) _ _ _⟩
end Go.Proofs.YtoldmigappbjcaaGreatDoor
