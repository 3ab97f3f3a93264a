import Derived.Deep.RegionHeld3
import Derived.Test.YtoldmigappbjcaaGreatDoorBaseRolled01
import Derived.Test.YtoldmigappbjcaaGreatDoorBaseRolled02
import Derived.Test.YtoldmigappbjcaaGreatDoorBaseRolled03
import Derived.Test.YtoldmigappbjcaaGreatDoorBaseRolled04
import Derived.Test.YtoldmigappbjcaaGreatDoorK16
import Derived.Test.YtoldmigappbjcaaGreatDoorK31
namespace Go.Proofs.YtoldmigappbjcaaGreatDoor
open Go.RowKit Go.GrainU
theorem out_at {w:World} {lo n d:Nat} {oo:Option Addr} {ys:List AT} (h:OutS w lo (.slice oo n d) n ys) {k:Nat} (hk:k<n) :
  ∃ b off,oo=some ⟨b,off,none⟩∧b<w.heap.size∧∀ j,j<4→w.cell? ⟨b,off+k*4+j,none⟩=(ys.getD k at0).cells[j]?:=by
 have hl:=h.len
 have hal:=acells4_length ys
 rcases own_seg' h.own with h0 | ⟨b,off,h1,h2⟩
 ·rw [h0] at hal
  simp at hal
  omega
 ·have hc:∀ j,j<4→w.cell? ⟨b,off+k*4+j,none⟩=(ys.getD k at0).cells[j]?:=fun j hj=>by
   rw [show (ys.getD k at0).cells[j]?=(acells4 ys)[k*4+j]? from (acells4_at ys k j (by omega) hj).symm,Nat.add_assoc];exact h2 (k*4+j) (by omega)
  exact ⟨b,off,h1,World.block_lt_of_cell? w ⟨b,off+k*4+0,none⟩ (u:=.int .i64 (ys.getD k at0).a.err) (hc 0 (by omega)),hc⟩
open Go.RowKit Go.GrainU
def kpt (l:List DT):List DT:=l.filter fun x=>decide (x.d.kind≠2)
theorem kpt_snoc (l:List DT) (x:DT):kpt (l++[x])=kpt l++(if x.d.kind=2 then [] else [x]):=by
 unfold kpt
 rw [List.filter_append]
 by_cases h:x.d.kind=2
 ·simp [h]
 ·simp [h]
theorem kpt_len (l:List DT):(kpt l).length≤l.length:=List.length_filter_le _ _
theorem kpt_mem {l:List DT}:∀ x∈kpt l,x∈l:=fun _ hx=>(List.mem_filter.1 hx).1
theorem dns_kpt (l:List DT):dns (kpt l)=keepR (dns l):=by
 unfold dns kpt keepR
 rw [List.filter_map]
 rfl
def pks:Nat→List DT→List Nat
 | _,[]=>[]
 | k,x::r=>if x.d.kind=2 then pks (k+1) r else k::pks (k+1) r
theorem pks_snoc (x:DT):∀ (l:List DT) (s:Nat),pks s (l++[x])=pks s l++(if x.d.kind=2 then [] else [s+l.length])
 | [],s=>by simp [pks]
 | y::r,s=>by
  simp only [List.cons_append,pks,pks_snoc x r]
  by_cases h:y.d.kind=2
  ·simp only [h,if_true,List.length_cons]
   rw [show s+1+r.length=s+(r.length+1) from by omega]
  ·simp only [h,if_false,List.cons_append,List.length_cons]
   rw [show s+1+r.length=s+(r.length+1) from by omega]
theorem pks_len:∀ (l:List DT) (s:Nat),(pks s l).length=(kpt l).length
 | [],s=>rfl
 | y::r,s=>by
  have ih:=pks_len r (s+1)
  unfold kpt at *
  by_cases h:y.d.kind=2
  ·simp [pks,h,ih]
  ·simp [pks,h,ih]
theorem unr_at:∀ (l:List DT) (A:List An) (s:Nat),l.length=A.length→∀ (q p:Nat),(pks s l)[q]?=some p→s≤p∧p<s+l.length∧(unr (dns l) A)[q]?=A[p-s]?
 | [],[],s,_,q,p,h=>by simp [pks] at h
 | [],a::A,s,h,_,_,_=>by simp at h
 | x::r,[],s,h,_,_,_=>by simp at h
 | x::r,a::A,s,hl,q,p,h=>by
  have hl':r.length=A.length:=by simpa using hl
  have ed:dns (x::r)=x.d::dns r:=rfl
  rw [ed]
  by_cases hk:x.d.kind=2
  ·simp only [pks,hk,if_true] at h
   obtain ⟨h1,h2,h3⟩:=unr_at r A (s+1) hl' q p h
   refine ⟨by omega,by simp;omega,?_⟩
   simp only [unr,hk,if_true]
   rw [h3,show p-s=(p-(s+1))+1 from by omega,List.getElem?_cons_succ]
  ·simp only [pks,hk,if_false] at h
   cases q with
   | zero =>
    simp at h
    subst h
    refine ⟨Nat.le_refl _,by simp,?_⟩
    simp [unr,hk]
   | succ q =>
    rw [List.getElem?_cons_succ] at h
    obtain ⟨h1,h2,h3⟩:=unr_at r A (s+1) hl' q p h
    refine ⟨by omega,by simp;omega,?_⟩
    simp only [unr,hk,if_false]
    rw [List.getElem?_cons_succ,h3,show p-s=(p-(s+1))+1 from by omega,List.getElem?_cons_succ]
def ncells (l:List Nat):List Value:=l.map fun (k:Nat)=>Value.int .i64 (k:Int)
theorem rolled_pure (l:List DT) (h120:l.length≤120) (h3:∀ x∈l,x.d.kind≠3) (h9:∀ a∈(playB b0 (dns l)).2,a.err≠9) :
  ∀ (q p:Nat) (x y:An),(pks 0 l)[q]?=some p→(playB b0 (dns l)).2[p]?=some x→(playB b0 (dns (kpt l))).2[q]?=some y→Seen x y:=by
 intro q p x y hq hx hy
 have hl:(dns l).length=l.length:=by simp [dns]
 have h:=alike_play (dns l) b0 b0 0 alike0 few0 (by omega) (fun d hd=>by
  obtain ⟨z,hz,rfl⟩:=List.mem_map.1 hd
  exact h3 z hz) h9
 rw [dns_kpt] at hy
 obtain ⟨_,_,h4⟩:=unr_at l (playB b0 (dns l)).2 0 (by rw [playB_len,hl]) q p hq
 rw [Nat.sub_zero,hx] at h4
 exact h.2 q x y h4 hy
theorem Tryz.infoInt1:(Tryz.prog.info? 3).map (fun i=>(i.zero,i.size,i.bytes))=some (some (.int .i64 0),1,8):=by kernel_rfl
set_option maxRecDepth 20000 in
set_option maxHeartbeats 8000000 in
theorem lrol_any (l:List DT) (ao:Option Addr) (n cap:Nat) (w:World) (hs:Seg w ao (dcells l)) (hd:∀ x∈l,DIn w x) (hn:n=l.length) (hv:ErrV w) :
  Calls Tryz.prog 4 #[.slice ao n cap] w fun e w'=>e=.returned (.bool true)∧Below w.heap.size w w':=by
 obtain ⟨i0,hi,hz0,hz1,hz2⟩:=sinfo_parts Tryz.infoDo
 obtain ⟨i1,hj,hy0,hy1,hy2⟩:=sinfo_parts Tryz.infoInt1
 have P0:=hide (lalive_any w hv)
 have HP:=hide (fun (W:World) (hb:Below w.heap.size w W)=>play_any l ao n cap W (hs.below hb) (fun x hx=>(hd x hx).below hb) hn (hv.below hb))
 have HP2:=hide (fun (W:World) (hb:Below w.heap.size w W) (gs:List DT) (go:Option Addr) (N d:Nat) (hsg:Seg W go (dcells gs)) (hsub:∀ x∈gs,x∈l) (hN:N=gs.length)=>play_any gs go N d W hsg (fun x hx=>(hd x (hsub x hx)).below hb) hN (hv.below hb))
 have HS:=hide hs
 have HN:=hide hn
 clear hs hd hn hv
 go_enter Tryz.func4,Tryz.ntmps4
 go_wp2_with fail
 refine P0.out.mono ?_
 rintro e w1 ⟨rfl,b1⟩
 have P1:=hide (HP.out w1 b1)
 clear P0 HP
 go_wp2_with fail
 refine P1.out.mono ?_
 intro e w2 hh
 have HH:=hide hh
 clear hh P1
 rcases HH.out with ⟨h120,rfl,b2⟩ | ⟨h120,ro,oo,rn,rc,d,hz,sl,ys,rfl,hrow,hli,hhz,hout,hys,b2⟩
 ·have bel2:=below_step b2 b1
  have HB:Hid (∀ o,Below w.heap.size w (w2.alloc o)):=fun o=>bel2.alloc bel2.size _
  clear HH b2 bel2 HP2
  go_wp2
  go_ret
  exact ⟨rfl,HB.out _⟩
 ·have bel2:=below_step b2 b1
  obtain ⟨A,hA⟩:∃ A,A=(playB b0 (dns l)).2:=⟨_,rfl⟩
  have hpure:=rolled_pure l h120
  have hAl:A.length=l.length:=by rw [hA,playB_len];simp [dns]
  have hfew:∀ a∈A,Few8 a.cs:=by rw [hA];exact play_few (dns l) b0 0 b0_inv few0 (by simp [dns];omega)
  rw [← hA] at hpure hys
  rw [← HN.out] at hout h120 hAl ⊢
  obtain ⟨W2,hW2⟩:∃ W2,W2=w2.alloc (.cells #[.slice ro rn rc,.int .i64 hz] 26):=⟨_,rfl⟩
  have b3:Below w2.heap.size w2 W2:=by rw [hW2];exact (Below.refl _ _).alloc (Nat.le_refl _) _
  have bel3:=below_step b3 bel2
  have HOut:=hide (hout.below b3)
  have HYs:=hide hys
  have HPu:=hide hpure
  have HAl:=hide hAl
  have HFew:=hide hfew
  have HW2:=hide hW2
  clear HH hrow hli hhz hout hys hA hpure hAl b2 b3 bel2 b1 hW2 hfew
  go_upto_region 6 with fail
  rw [← HW2.out]
  go_wp2
  go_loopw [6,7,26] (fun g h i wr=>∃ (k N d d':Nat) (go ho:Option Addr),k≤n∧i=.int .i64 k∧g=.slice go N d∧h=.slice ho N d'∧N≤k∧wr.ownsRow W2.heap.size 36 7 (.slice go N d) N (dcells (kpt (l.take k)))∧wr.ownsRow W2.heap.size 3 1 (.slice ho N d') N (ncells (pks 0 (l.take k)))∧Hid (∀ j,j<k→(dtt l j).d.kind≠3∧(ys.getD j at0).a.err≠9)∧Below W2.heap.size W2 wr) (fun _ _ i _=>n-(intOf i).toNat)
  case atStart=>exact ⟨0,0,0,0,none,none,Nat.zero_le _,rfl,rfl,rfl,Nat.le_refl _,by simpa [kpt,dcells] using World.ownsRow_nil _ _ _ _,by simpa [pks,ncells] using World.ownsRow_nil _ _ _ _,fun j hj=>by omega,Below.refl _ _⟩
  case round =>
   obtain ⟨k,N,d',d2,go,ho,hk,rfl,rfl,rfl,hNk,own,own2,HJ,bel⟩:=hrel
   by_cases hlt:k<n
   ·have hkl:k<l.length:=by rw [← HN.out];exact hlt
    have belw:=below_step bel bel3
    obtain ⟨bb,off,rfl,hbb,hcell⟩:=seg_do HS.out hkl
    obtain ⟨ob,ooff,rfl,hob,hocell⟩:=out_at HOut.out hlt
    obtain ⟨x,hx⟩:∃ x,x=dtt l k:=⟨_,rfl⟩
    obtain ⟨y,hy⟩:∃ y,y=ys.getD k at0:=⟨_,rfl⟩
    have cc:∀ i,i<7→wr.cell? ⟨bb,off+k*7+i,none⟩=x.cells[i]?:=fun i hi=>by rw [hx];exact (belw.cell (p:=⟨bb,_,none⟩) hbb).trans (hcell k hkl i hi)
    obtain ⟨E,hE⟩:∃ E,E=y.a.err:=⟨_,rfl⟩
    obtain ⟨K,hK⟩:∃ K,K=x.d.kind:=⟨_,rfl⟩
    obtain ⟨m,hm⟩:∃ m,m=x.d.se.length:=⟨_,rfl⟩
    have q0:wr.cell? ⟨bb,off+k*7,none⟩=some (.int .i64 K):=by rw [hK];exact cc 0 (by omega)
    have q1:wr.cell? ⟨bb,off+k*7+1,none⟩=some (.int .i64 x.d.tier):=cc 1 (by omega)
    have q2:wr.cell? ⟨bb,off+k*7+2,none⟩=some (.int .i64 x.d.till):=cc 2 (by omega)
    have q3:wr.cell? ⟨bb,off+k*7+3,none⟩=some (.slice x.sa m x.sc):=by rw [hm];exact cc 3 (by omega)
    have q4:wr.cell? ⟨bb,off+k*7+4,none⟩=some (.int .i64 x.d.t):=cc 4 (by omega)
    have q5:wr.cell? ⟨bb,off+k*7+5,none⟩=some (.int .i64 x.d.v):=cc 5 (by omega)
    have q6:wr.cell? ⟨bb,off+k*7+6,none⟩=some (.string x.d.tx):=cc 6 (by omega)
    have hk1:l.take (k+1)=l.take k++[x]:=by rw [List.take_add_one,List.getElem?_eq_getElem hkl,hx,dtt_get hkl];rfl
    have HG:Hid (kpt (l.take (k+1))=kpt (l.take k)++(if K=2 then [] else [x])):=by show _=_;rw [hk1,kpt_snoc,hK]
    have HG':Hid (pks 0 (l.take (k+1))=pks 0 (l.take k)++(if K=2 then [] else [k])):=by
     show _=_
     rw [hk1,pks_snoc,hK,show 0+(l.take k).length=k from by simp;omega]
    have HJ2:Hid (K≠3→E≠9→∀ j,j<k+1→(dtt l j).d.kind≠3∧(ys.getD j at0).a.err≠9):=fun h1 h2 j hj=>by
     rcases Nat.lt_or_ge j k with h | h
     ·exact HJ.out j h
     ·have:j=k:=by omega
      subst this
      rw [← hx,← hy,← hK,← hE]
      exact ⟨h1,h2⟩
    have HXc:Hid (x.cells=[.int .i64 K,.int .i64 x.d.tier,.int .i64 x.d.till,.slice x.sa m x.sc,.int .i64 x.d.t,.int .i64 x.d.v,.string x.d.tx]):=by show _=_;rw [hK,hm];rfl
    have o0':wr.cell? ⟨ob,ooff+k*4,none⟩=some (.int .i64 E):=by
     have:=(bel.cell (p:=⟨ob,ooff+k*4+0,none⟩) hob).trans (hocell 0 (by omega))
     rw [← hy] at this
     rw [hE];exact this
    have hki:(k:Int)<(n:Int):=by omega
    obtain ⟨V0,hV0⟩:∃ V0,V0=wr.alloc (.cells #[.int .i64 K,.int .i64 x.d.tier,.int .i64 x.d.till,.slice x.sa m x.sc,.int .i64 x.d.t,.int .i64 x.d.v,.string x.d.tx] 36):=⟨_,rfl⟩
    have bV0:Below wr.heap.size wr V0:=by rw [hV0];exact (Below.refl _ _).alloc (Nat.le_refl _) _
    have D0:V0.heap[wr.heap.size]?=some (.cells #[.int .i64 K,.int .i64 x.d.tier,.int .i64 x.d.till,.slice x.sa m x.sc,.int .i64 x.d.t,.int .i64 x.d.v,.string x.d.tx] 36 (0,0)):=by rw [hV0];exact heap_alloc_new wr _
    have o0:V0.cell? ⟨ob,ooff+k*4,none⟩=some (.int .i64 E):=(bV0.cell (World.block_lt_of_cell? wr _ o0')).trans o0'
    have own0:=own_below own bV0
    have own20:=own_below own2 bV0
    have bel0:=below_step bV0 bel
    obtain ⟨t0,t1,t2,t3,t4,t5,t6⟩:=seven_cells D0
    have HV0:=hide hV0
    have HB0:Hid (Below w.heap.size w V0):=below_step bel0 bel3
    clear hcell hocell cc hx hy hE hK hm hkl belw hk1 HJ o0' own own2 bel hV0 D0
    go_upto_region 11 with fail
    rw [← HV0.out]
    by_cases hK3:K=3
    ·subst hK3
     clear HG HG' HJ2 own0 own20 HP2
     go_wp2
     go_ret
     exact ⟨rfl,HB0.out⟩
    ·have nK3:(K == 3)=false:=by simpa using hK3
     by_cases hE9:E=9
     ·subst hE9
      clear HG HG' HJ2 own0 own20 HP2
      go_wp2
      go_ret
      exact ⟨rfl,HB0.out⟩
     ·have nE9:(E == 9)=false:=by simpa using hE9
      have HJ3:Hid (∀ j,j<k+1→(dtt l j).d.kind≠3∧(ys.getD j at0).a.err≠9):=HJ2.out hK3 hE9
      clear HJ2 hE9 hK3
      by_cases hK2:K=2
      ·have own':V0.ownsRow W2.heap.size 36 7 (.slice go N d') N (dcells (kpt (l.take (k+1)))):=by rw [HG.out,if_pos hK2,List.append_nil];exact own0
       have own2':V0.ownsRow W2.heap.size 3 1 (.slice ho N d2) N (ncells (pks 0 (l.take (k+1)))):=by rw [HG'.out,if_pos hK2,List.append_nil];exact own20
       subst hK2
       clear HG HG' own0 own20
       go_wp2
       go_roundw
       case rel=>exact ⟨k+1,N,d',d2,go,ho,by omega,by go_num,rfl,rfl,by omega,own',own2',HJ3,bel0⟩
       case measure=>simp [intOf];omega
      ·have nK2:(K != 2)=true:=by simpa using hK2
       have HG2:Hid (kpt (l.take (k+1))=kpt (l.take k)++[x]):=by show _=_;rw [HG.out,if_neg hK2]
       have HG3:Hid (pks 0 (l.take (k+1))=pks 0 (l.take k)++[k]):=by show _=_;rw [HG'.out,if_neg hK2]
       obtain ⟨V,hV⟩:∃ V,V=V0.alloc (.cells #[.int .i64 K,.int .i64 x.d.tier,.int .i64 x.d.till,.slice x.sa m x.sc,.int .i64 x.d.t,.int .i64 x.d.v,.string x.d.tx] 36):=⟨_,rfl⟩
       have bV:Below V0.heap.size V0 V:=by rw [hV];exact (Below.refl _ _).alloc (Nat.le_refl _) _
       have ownV:=own_below own0 bV
       have own2V:=own_below own20 bV
       have belV:=below_step bV bel0
       have HNB:Hid (∀ j u,[Value.int .i64 K,.int .i64 x.d.tier,.int .i64 x.d.till,.slice x.sa m x.sc,.int .i64 x.d.t,.int .i64 x.d.v,.string x.d.tx][j]?=some u→V.cell? ((⟨V0.heap.size,0,none⟩:Addr).add j)=some u):=by
        refine seg_news ?_
        rw [hV]
        have:=seg_new V0 #[.int .i64 K,.int .i64 x.d.tier,.int .i64 x.d.till,.slice x.sa m x.sc,.int .i64 x.d.t,.int .i64 x.d.v,.string x.d.tx] 36
        simpa using this
       have H1:Hid (∀ u∈[Value.int .i64 K,.int .i64 x.d.tier,.int .i64 x.d.till,.slice x.sa m x.sc,.int .i64 x.d.t,.int .i64 x.d.v,.string x.d.tx],u.oneCell'=true):=by
        intro u hu
        simp only [List.mem_cons,List.not_mem_nil,or_false] at hu
        rcases hu with e | e | e | e | e | e | e <;> (subst e;rfl)
       have hs2:V.heap.size=V0.heap.size+1:=by rw [hV];simp
       have hws:W2.heap.size≤V.heap.size:=belV.size
       have HV1:=hide hV
       clear HG HG' own0 own20 hV bV hK2
       go_wp2_with (rw [← HV1.out];at_builtin;refine wpList_append_lies _ rfl _ _ 22 rfl W2.heap.size 36 i0 (.agg #[.int .i64 0,.int .i64 0,.int .i64 0,.slice none 0 0,.int .i64 0,.int .i64 0,.string ⟨#[]⟩]) 7 80 Tryz.underlying22 hi hz0 hz1 hz2 rfl (by decide) _ _ _ rfl ownV ⟨V0.heap.size,0,none⟩ 1 1 [.int .i64 K,.int .i64 x.d.tier,.int .i64 x.d.till,.slice x.sa m x.sc,.int .i64 x.d.t,.int .i64 x.d.v,.string x.d.tx] rfl rfl HNB.out H1.out (by decide) (by unfold maxLen;omega) (by omega) hws (V0.heap.size+1) hs2 ?_)
       intro g' cp' wz ownZ grZ hatZ hltZ
       have own':wz.ownsRow W2.heap.size 36 7 (.slice (some ⟨g',0,none⟩) (N+1) cp') (N+1) (dcells (kpt (l.take (k+1)))):=by
        rw [HG2.out,dcells_append]
        show wz.ownsRow _ _ _ _ _ (_++(x.cells++[]))
        rw [List.append_nil,HXc.out]
        exact ownZ
       have belZ:Below W2.heap.size W2 wz:=belV.grown grZ hws (fun j hj=>(own_base ownV j hj).1)
       have own2Z:wz.ownsRow W2.heap.size 3 1 (.slice ho N d2) N (ncells (pks 0 (l.take k))):=own_two own2V ownV grZ (by decide)
       obtain ⟨U,hU⟩:∃ U,U=wz.alloc (.cells #[.int .i64 (k:Int)] 3):=⟨_,rfl⟩
       have bU:Below wz.heap.size wz U:=by rw [hU];exact (Below.refl _ _).alloc (Nat.le_refl _) _
       have ownU:=own_below own' bU
       have own2U:=own_below own2Z bU
       have belU:=below_step bU belZ
       have HNU:Hid (∀ j u,[Value.int .i64 (k:Int)][j]?=some u→U.cell? ((⟨wz.heap.size,0,none⟩:Addr).add j)=some u):=by
        refine seg_news ?_
        rw [hU]
        have:=seg_new wz #[.int .i64 (k:Int)] 3
        simpa using this
       have hs3:U.heap.size=wz.heap.size+1:=by rw [hU];simp
       have hwu:W2.heap.size≤U.heap.size:=belU.size
       have HU1:=hide hU
       clear ownV ownZ grZ hatZ hltZ HNB HG2 belV own' own2Z own2V bU hU belZ
       go_wp2_with (rw [← HU1.out];at_builtin;refine wpList_append_lies _ rfl _ _ 55 rfl W2.heap.size 3 i1 (.int .i64 0) 1 8 Tryz.underlying55 hj hy0 hy1 hy2 rfl (by decide) _ _ _ rfl own2U ⟨wz.heap.size,0,none⟩ 1 1 [.int .i64 (k:Int)] rfl rfl HNU.out (fun u hu=>by simp at hu;subst hu;rfl) (by decide) (by unfold maxLen;omega) (by omega) hwu (wz.heap.size+1) hs3 ?_)
       intro g2 cp2 wy ownY grY hatY hltY
       have own2':wy.ownsRow W2.heap.size 3 1 (.slice (some ⟨g2,0,none⟩) (N+1) cp2) (N+1) (ncells (pks 0 (l.take (k+1)))):=by
        rw [HG3.out]
        show wy.ownsRow _ _ _ _ _ (List.map _ (_++_))
        rw [List.map_append]
        exact ownY
       have belY:Below W2.heap.size W2 wy:=belU.grown grY hwu (fun j hj=>(own_base own2U j hj).1)
       have own'':=own_two ownU own2U grY (by decide)
       clear ownU own2U ownY grY hatY hltY HNU HG3 belU
       go_wp2
       go_roundw
       case rel=>exact ⟨k+1,N+1,cp',cp2,_,_,by omega,by go_num,rfl,rfl,by omega,own'',own2',HJ3,belY⟩
       case measure=>simp [intOf];omega
   ·have he:k=n:=by omega
    subst he
    have e1:l.take k=l:=List.take_of_length_le (by rw [← HN.out];exact Nat.le_refl _)
    rw [e1] at own own2
    have hyl:=HOut.out.len
    have h3:∀ x∈l,x.d.kind≠3:=by
     intro x hx
     obtain ⟨j,hj,rfl⟩:=List.mem_iff_getElem.1 hx
     have:=(HJ.out j (by rw [HN.out];exact hj)).1
     rwa [dtt_get hj] at this
    have h9:∀ a∈A,a.err≠9:=by
     intro a ha
     rw [← HYs.out] at ha
     obtain ⟨y,hy,rfl⟩:=List.mem_map.1 ha
     obtain ⟨j,hj,rfl⟩:=List.mem_iff_getElem.1 hy
     have:=(HJ.out j (by omega)).2
     simpa [List.getD,List.getElem?_eq_getElem hj] using this
    have HPu2:=hide (HPu.out h3 h9)
    obtain ⟨gs,hgs⟩:∃ gs,gs=kpt l:=⟨_,rfl⟩
    obtain ⟨ps,hps⟩:∃ ps,ps=pks 0 l:=⟨_,rfl⟩
    have hpl:ps.length=gs.length:=by rw [hps,hgs,pks_len]
    have hgl:gs.length≤120:=by rw [hgs];have:=kpt_len l;have:=HN.out;omega
    have hpp:∀ q p,ps[q]?=some p→p<k:=fun q p h=>by
     rw [hps] at h
     have:=(unr_at l A 0 (by rw [HAl.out,HN.out]) q p h).2.1
     have:=HN.out
     omega
    have HPu3:=HPu2.out
    rw [← hgs] at own HPu3
    rw [← hps] at own2 HPu3
    have hNg:N=gs.length:=by have:=own.1;rw [dcells_length] at this;omega
    have belw:=below_step bel bel3
    have P3:=hide (HP2.out wr belw gs go N d' (own_seg' own) (fun x hx=>kpt_mem x (by rw [← hgs];exact hx)) hNg)
    have HP3:=hide HPu3
    have HNg:=hide hNg
    have HPP:=hide hpp
    have HPl:=hide hpl
    have Ow2:=hide own2
    clear own own2 e1 hgs hps HP2 HPu HPu2 HPu3 hNg h3 h9 HJ hpp hpl hyl
    go_wp2_with fail
    refine P3.out.mono ?_
    intro e w4 hh
    have HH:=hide hh
    clear hh P3
    rcases HH.out with ⟨h121,_⟩ | ⟨h121,ro2,oo2,rn2,rc2,dd2,hz2,sl2,ys2,rfl,hrow2,hli2,hhz2,hout2,hys2,b4⟩
    ·have:=HNg.out;omega
    ·have hNg:=HNg.out
     have bel4:=below_step b4 belw
     rw [← hNg] at hout2 ⊢
     obtain ⟨W4,hW4⟩:∃ W4,W4=w4.alloc (.cells #[.slice ro2 rn2 rc2,.int .i64 hz2] 26):=⟨_,rfl⟩
     have b5:Below w4.heap.size w4 W4:=by rw [hW4];exact (Below.refl _ _).alloc (Nat.le_refl _) _
     have bel5:=below_step b5 bel4
     have b6:Below wr.heap.size wr W4:=below_step b5 b4
     have HO2:=hide (hout2.below b5)
     have HO1:=hide ((HOut.out.below bel).below b6)
     have HIx:=hide (own_below Ow2.out b6)
     have HY2:=hide hys2
     have HW4:=hide hW4
     have hN120:N≤120:=by omega
     clear HH hrow2 hli2 hhz2 hout2 hys2 hW4 b4 b5 b6 bel4 belw bel h121 hNg Ow2 HOut
     go_upto_region 17 with fail
     rw [← HW4.out]
     go_wp2
     go_loopw [64] (fun i wq=>∃ q:Nat,q≤N∧i=.int .i64 q∧Below W4.heap.size W4 wq) (fun i _=>N-(intOf i).toNat)
     case atStart=>exact ⟨0,Nat.zero_le _,rfl,Below.refl _ _⟩
     case round =>
      obtain ⟨q,hq,hqi,belq⟩:=hrel
      subst hqi
      by_cases hql:q<N
      ·have hqp:q<ps.length:=by rw [HPl.out,← HNg.out];exact hql
       obtain ⟨p,hp⟩:∃ p,p=ps[q]:=⟨_,rfl⟩
       have hpk:p<k:=HPP.out q p (by rw [hp];exact List.getElem?_eq_getElem hqp)
       obtain ⟨ib,ioff,rfl,hicell⟩:∃ ib ioff,ho=some ⟨ib,ioff,none⟩∧W4.cell? ⟨ib,ioff+q,none⟩=some (.int .i64 (p:Int)):=by
        rcases own_seg' HIx.out with h0 | ⟨b,off,h1,h2⟩
        ·have:ps.length=0:=by simpa [ncells] using congrArg List.length h0
         omega
        ·refine ⟨b,off,h1,?_⟩
         rw [h2 q (by simpa [ncells] using hqp),hp]
         simp [ncells,List.getElem?_eq_getElem hqp]
       have i0:wr.cell? ⟨ib,ioff+q,none⟩=some (.int .i64 (p:Int)):=(belq.cell (World.block_lt_of_cell? W4 _ hicell)).trans hicell
       obtain ⟨ob,ooff,rfl,hob,hocell⟩:=out_at HO1.out hpk
       obtain ⟨ob2,ooff2,rfl,hob2,hocell2⟩:=out_at HO2.out hql
       obtain ⟨x,hx⟩:∃ x,x=ys.getD p at0:=⟨_,rfl⟩
       obtain ⟨y,hy⟩:∃ y,y=ys2.getD q at0:=⟨_,rfl⟩
       have hyl:=HO1.out.len
       have hyl2:=HO2.out.len
       have hpy:p<ys.length:=by omega
       have hqy:q<ys2.length:=by omega
       have hxm:x∈ys:=by rw [hx];simp [List.getD,List.getElem?_eq_getElem hpy]
       have hym:y∈ys2:=by rw [hy];simp [List.getD,List.getElem?_eq_getElem hqy]
       have hsee:Seen x.a y.a:=by
        refine HP3.out q p x.a y.a (by rw [hp];exact List.getElem?_eq_getElem hqp) ?_ ?_
        ·rw [← HYs.out,List.getElem?_map,List.getElem?_eq_getElem hpy,hx]
         simp [List.getD,List.getElem?_eq_getElem hpy]
        ·rw [← HY2.out,List.getElem?_map,List.getElem?_eq_getElem hqy,hy]
         simp [List.getD,List.getElem?_eq_getElem hqy]
       have ax:=(HO1.out.ans x hxm)
       have ay:=(HO2.out.ans y hym)
       have hfx:Few8 x.a.cs:=HFew.out _ (by rw [← HYs.out];exact List.mem_map_of_mem hxm)
       have hfy:Few8 y.a.cs:=by rw [hsee.2.1];exact hfx
       have hcl:cls y.cts=cls x.cts:=by rw [ay.cs,ax.cs];exact hsee.2.1
       obtain ⟨f1,f2⟩:=few_cts ay hfy
       obtain ⟨M,hM⟩:∃ M,M=y.cts.length:=⟨_,rfl⟩
       have hMx:x.cts.length=M:=by rw [hM,← cls_len,← cls_len,hcl]
       obtain ⟨E,hE⟩:∃ E,E=x.a.err:=⟨_,rfl⟩
       have hEy:y.a.err=E:=by rw [hE];exact hsee.1
       have hcost:¬ y.a.cost<x.a.cost:=by have:=hsee.2.2;omega
       have PC:Hid (∀ w',Below W4.heap.size W4 w'→Calls Tryz.prog 18 #[.slice y.co M y.cap,.slice x.co M x.cap] w' fun e w''=>e=.returned (.bool true)∧Below w'.heap.size w' w''):=fun w' hb' =>
        rsamec_any y.cts x.cts y.co x.co M M y.cap x.cap w' (ay.inn.below hb') (ax.inn.below hb') hM hMx.symm hcl (fun c hc=>by have:=f2 c hc;omega) (by omega)
       have cc:∀ j,j<4→wr.cell? ⟨ob,ooff+p*4+j,none⟩=x.cells[j]?:=fun j hj=>by rw [hx];exact (belq.cell (p:=⟨ob,_,none⟩) hob).trans (hocell j hj)
       have dd:∀ j,j<4→wr.cell? ⟨ob2,ooff2+q*4+j,none⟩=y.cells[j]?:=fun j hj=>by rw [hy];exact (belq.cell (p:=⟨ob2,_,none⟩) hob2).trans (hocell2 j hj)
       have c0:wr.cell? ⟨ob,ooff+p*4,none⟩=some (.int .i64 E):=by rw [hE];exact cc 0 (by omega)
       have c2:wr.cell? ⟨ob,ooff+p*4+2,none⟩=some (.slice x.co M x.cap):=by rw [← hMx];exact cc 2 (by omega)
       have c3:wr.cell? ⟨ob,ooff+p*4+3,none⟩=some (.int .i64 x.a.cost):=cc 3 (by omega)
       have e0:wr.cell? ⟨ob2,ooff2+q*4,none⟩=some (.int .i64 E):=by rw [← hEy];exact dd 0 (by omega)
       have e2:wr.cell? ⟨ob2,ooff2+q*4+2,none⟩=some (.slice y.co M y.cap):=by rw [hM];exact dd 2 (by omega)
       have e3:wr.cell? ⟨ob2,ooff2+q*4+3,none⟩=some (.int .i64 y.a.cost):=dd 3 (by omega)
       have g1:ob<wr.heap.size:=World.block_lt_of_cell? wr _ c0
       have g2:ob2<wr.heap.size:=World.block_lt_of_cell? wr _ e0
       have HSS:Hid (∀ w',Below wr.heap.size wr w'→w'.cell? ⟨ob,ooff+p*4,none⟩=some (.int .i64 E)∧w'.cell? ⟨ob,ooff+p*4+2,none⟩=some (.slice x.co M x.cap)∧w'.cell? ⟨ob,ooff+p*4+3,none⟩=some (.int .i64 x.a.cost)∧w'.cell? ⟨ob2,ooff2+q*4,none⟩=some (.int .i64 E)∧w'.cell? ⟨ob2,ooff2+q*4+2,none⟩=some (.slice y.co M y.cap)∧w'.cell? ⟨ob2,ooff2+q*4+3,none⟩=some (.int .i64 y.a.cost)):=fun w' hb' =>
        ⟨(hb'.cell (by exact g1)).trans c0,(hb'.cell (by exact g1)).trans c2,(hb'.cell (by exact g1)).trans c3,(hb'.cell (by exact g2)).trans e0,(hb'.cell (by exact g2)).trans e2,(hb'.cell (by exact g2)).trans e3⟩
       have R0:Below wr.heap.size wr wr.drew:=below_drewN (Below.refl _ _) 1
       have hEE:(E != E)=false:=by simp
       have hqi:(q:Int)<(N:Int):=by omega
       have hpi:(p:Int)<(k:Int):=by omega
       obtain ⟨cx,hcx⟩:∃ c,c=x.a.cost:=⟨_,rfl⟩
       obtain ⟨cy,hcy⟩:∃ c,c=y.a.cost:=⟨_,rfl⟩
       rw [← hcx,← hcy] at hcost HSS
       have hcd:decide (cy<cx)=false:=by simpa using hcost
       clear hocell hocell2 cc dd hx hy hyl hyl2 hpy hqy hxm hym hsee ax ay hfx hfy hcl f1 f2 hM hMx hE hEy c0 c2 c3 e0 e2 e3 hp hqp hicell hcx hcy
       go_wp2_with fail
       go_region_held3 (fun w'=>w'.cell? ⟨ob,ooff+p*4,none⟩=some (.int .i64 E)∧w'.cell? ⟨ob,ooff+p*4+2,none⟩=some (.slice x.co M x.cap)∧w'.cell? ⟨ob,ooff+p*4+3,none⟩=some (.int .i64 cx)∧w'.cell? ⟨ob2,ooff2+q*4,none⟩=some (.int .i64 E)∧w'.cell? ⟨ob2,ooff2+q*4+2,none⟩=some (.slice y.co M y.cap)∧w'.cell? ⟨ob2,ooff2+q*4+3,none⟩=some (.int .i64 cy)) (exact HSS.out _ (by with_reducible assumption))
        (first | (go_at_call 18;refine (PC.out _ (belq.trans (Below.mono (by with_reducible assumption) belq.size))).mono ?_;rintro e w3 ⟨rfl,b3⟩;have R4:=below_step b3 (by with_reducible assumption)))
       all_goals
        have bel3:Below W4.heap.size W4 w3:=belq.trans (R4.mono belq.size)
        clear R4 b3 R0 HSS PC belq
        go_wp2
        go_roundw
        case rel=>exact ⟨q+1,by omega,by go_num,bel3⟩
        case measure=>simp [intOf];omega
      ·have bel6:=below_step belq bel5
       go_wp2
       go_ret
       exact ⟨rfl,bel6⟩
end Go.Proofs.YtoldmigappbjcaaGreatDoor
