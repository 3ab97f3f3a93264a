import Derived.Test.YtoldmigappbjcaaGreatDoorK01
import Derived.Test.YtoldmigappbjcaaGreatDoorK02
import Derived.Test.YtoldmigappbjcaaGreatDoorK05
import Derived.Test.YtoldmigappbjcaaGreatDoorK15
import Derived.Test.YtoldmigappbjcaaGreatDoorK30
import Derived.Test.YtoldmigappbjcaaGreatDoorK31
namespace Grain
theorem wrongAt_of {s:Shf} {tq:Int} (h:SR s) (h1:0≤tq) (h2:tq≤1000000):wrongAt s tq=0:=by
 unfold wrongAt
 rw [if_neg (by simp [(sr_iff s).2 h]),if_neg (by omega)]
theorem up_fewer (st:Int) {l:List (Int×Int)} (h:l.length≤1000000):(up l st).length≤l.length:=by
 have:=(up_fit st l h).len
 omega
theorem sroll_ok {s:Shf} {A:List (Int×Int)} (h:Keeps s A) (h5:A.length≤500) {t:Int} (h0:0≤t) (h1:t≤1000000):(sroll s t).2=0:=by
 have f1:=h.sr.fsp
 have f2:=h.sr.csp
 have f3:=h.sr.bd
 have hb:=beg_bd (t:=t) (st:=10) (.inl rfl) h0
 have g1:s.ft≤nft s t∧nft s t≤1000000∧nft s t%10=0∧0≤nft s t:=by
  unfold nft;omega
 have hb2:=beg_bd (t:=nft s t) (st:=60) (.inr rfl) g1.2.2.2
 have g2:s.ct≤nct s t∧nct s t≤nft s t∧nct s t%60=0∧0≤nct s t:=by
  unfold nct;omega
 have e1:nfi s t=up (win A s.ff (nft s t)) 10:=by
  unfold nfi
  rw [h.ra,win_ra f3.2.1,h.fi,up_split (.inl rfl) f1.2.1 f1.2.2.2.1 g1.1 h.took]
 have e2:nco s t=up (win A s.cf (nct s t)) 60:=by
  unfold nco
  rw [e1,up_winB f1.1 (by omega) (by omega) f3.2.2.1 g2.1 g2.2.1 h.took,great_up _ (h.took.win_len (by omega) (by omega) g2.1),h.co,← up_split (.inr rfl) f2.2.1 f2.2.2.2.1 g2.1 h.took]
 have l1:(nfi s t).length≤500:=by
  rw [e1]
  have a:=win_len A s.ff (nft s t)
  have:=up_fewer 10 (l:=win A s.ff (nft s t)) (by omega)
  omega
 have l2:(nco s t).length≤500:=by
  rw [e2]
  have a:=win_len A s.cf (nct s t)
  have:=up_fewer 60 (l:=win A s.cf (nct s t)) (by omega)
  omega
 unfold sroll
 rw [if_neg (by rw [wrongAt_of h.sr h0 h1];simp),if_neg (by omega),if_neg (by omega)]
theorem sroll_ra {s:Shf} {t:Int} (h:(sroll s t).2=0):(sroll s t).1.ra=s.ra:=by
 unfold sroll at *
 repeat' (split at h)
 all_goals first | (exfalso;simp_all;done) | skip
 all_goals (simp_all;try (repeat rw [if_neg (by omega)]);try simp)
theorem sapp_err {s:Shf} {A:List (Int×Int)} (h:Keeps s A) (h5:s.ra.length<500) {t v:Int} (hin:inR t v=true):(sapp s t v).2=if late s t=true then 9 else 0:=by
 unfold sapp
 rw [if_neg (by rw [(sr_iff s).2 h.sr];simp),if_neg (by rw [hin];decide)]
 by_cases hl:late s t=true
 ·rw [if_pos hl,if_pos hl]
 ·rw [if_neg hl,if_neg hl,if_neg (by omega)]
end Grain
namespace Go.GrainU
open Go.RowKit
theorem eachB_all {f:Grain.Shf→Grain.Shf×Int}:∀ (l:List Kp),(∀ k∈l,(f k.s).2=0)→eachB f l=.ok (l.map fun k=>⟨(f k.s).1,k.A⟩)
 | [],_=>rfl
 | k::r,h=>by
  simp only [eachB,h k (by simp),if_true,eachB_all r (fun x hx=>h x (by simp [hx])),List.map_cons]
theorem rollB_ok {b:Bs} (hb:BInv b) (h5:FewB 500 b) {t:Int} (h0:0≤t) (h1:t≤1000000):rollB b t=(⟨b.l.map fun k=>⟨(Grain.sroll k.s t).1,k.A⟩,max b.hz (Grain.beg t 10)⟩,0):=by
 unfold rollB
 rw [if_neg (by omega),eachB_all (f:=fun s=>Grain.sroll s t) b.l (fun k hk=>Grain.sroll_ok (hb.kee k hk) (h5 k hk) h0 h1)]
theorem take_first {s:Lb} (hs:wrongS s=0) {t v:Int} (hin:Grain.inR t v=true):takeB b0 s t v=(⟨[⟨{ newS s with ra:=[(t,v)] },[(t,v)]⟩],0⟩,0):=by
 have hk:Grain.Keeps (newS s) []:=Grain.keeps_new hs
 have ht:0≤t:=by simp [Grain.inR] at hin;omega
 have r0:Grain.sroll (newS s) 0=(newS s,0):=by
  have h0:Grain.wrongAt (newS s) 0=0:=Grain.wrongAt_of hk.sr (by omega) (by omega)
  unfold Grain.sroll
  rw [h0]
  rfl
 have a0:Grain.sapp (newS s) t v=({ newS s with ra:=[(t,v)] },0):=by
  unfold Grain.sapp
  rw [if_neg (by rw [(Grain.sr_iff _).2 hk.sr];simp),if_neg (by rw [hin];decide),if_neg (by show ¬ ((decide (t<0) || false)=true);simp;exact ht),if_neg (by simp [newS,Grain.szero])]
  simp [newS,Grain.szero]
 unfold takeB
 rw [if_neg (by simp [hs]),if_neg (by rw [hin];decide),if_neg (by show ¬ t<0;omega),if_neg (by simp [bhas,b0])]
 unfold putN
 rw [if_neg (by simp [b0]),show b0.hz=0 from rfl,r0,if_neg (by simp)]
 simp only
 rw [a0,if_neg (by simp)]
 simp [b0]
theorem lastA3 (x y z:Dn):(if 120 < [x,y,z].length∨[x,y,z].length=0 then (⟨1,0,[],0⟩:An) else (playB b0 [x,y,z]).2.getD ([x,y,z].length-1) ⟨1,0,[],0⟩)=(doB (doB (doB b0 x).1 y).1 z).2:=by
 simp [playB]
theorem late_same {s:Lb} (hs:wrongS s=0) {a t b v u:Int} (ha:Grain.inR a v=true) (ht0:0≤t) (ht1:t≤1000000) (hb:Grain.inR b u=true) :
  (takeB (rollB (takeB b0 s a v).1 t).1 s b u).2=if b<t-t%10∨b≤a then 9 else 0:=by
 have i1:BInv (takeB b0 s a v).1:=takeB_inv b0_inv s a v
 have w1:FewB 500 (takeB b0 s a v).1:=(takeB_few (m:=0) (b:=b0) (fun k hk=>by simp [b0] at hk) s a v).mono (by omega)
 have i2:BInv (rollB (takeB b0 s a v).1 t).1:=rollB_inv i1 t
 rw [rollB_ok i1 w1 ht0 ht1] at i2 ⊢
 rw [take_first hs ha] at i1 w1 i2 ⊢
 simp only at i2 ⊢
 obtain ⟨k1,hk1⟩:∃ k:Kp,k=⟨{ newS s with ra:=[(a,v)] },[(a,v)]⟩:=⟨_,rfl⟩
 rw [← hk1] at i1 w1 i2 ⊢
 have hse1:k1.s.se=s:=by rw [hk1];rfl
 have hra1:k1.s.ra=[(a,v)]:=by rw [hk1]
 have hr:=Grain.sroll_ok (i1.kee k1 (by simp)) (w1 k1 (by simp)) ht0 ht1
 simp only [List.map_cons,List.map_nil] at i2 ⊢
 obtain ⟨k2,hk2⟩:∃ k:Kp,k=⟨(Grain.sroll k1.s t).1,k1.A⟩:=⟨_,rfl⟩
 rw [← hk2] at i2 ⊢
 have hse2:k2.s.se=s:=by rw [hk2];show (Grain.sroll k1.s t).1.se=s;rw [(sroll_same hr).1,hse1]
 have hra2:k2.s.ra=[(a,v)]:=by rw [hk2];show (Grain.sroll k1.s t).1.ra=_;rw [Grain.sroll_ra hr,hra1]
 have hg:max 0 (Grain.beg t 10)=t-t%10:=by unfold Grain.beg;omega
 rw [hg] at i2 ⊢
 have hft:k2.s.ft=t-t%10:=i2.ft k2 (by simp)
 have hc0:cmpS k2.s.se s=0:=by rw [hse2];exact (cmpS_zero s s).2 rfl
 have hp:bpos [k2] s=0:=by simp [bpos,hc0]
 have hh:bhas [k2] s=true:=by simp [bhas,hp,kp,hc0]
 unfold takeB
 rw [if_neg (by simp [hs]),if_neg (by rw [hb];decide)]
 simp only
 by_cases h1:b<t-t%10
 ·rw [if_pos h1,if_pos (.inl h1)]
 ·rw [if_neg h1,if_pos hh,hp]
  have he:=Grain.sapp_err (i2.kee k2 (by simp)) (by rw [hra2];simp) hb
  have hkp:kp [k2] 0=k2:=rfl
  have hl:Grain.late k2.s b=decide (b≤a):=by
   unfold Grain.late
   rw [hft,hra2]
   simp [h1]
  rw [hl] at he
  unfold putB
  simp only [hkp]
  by_cases h2:b≤a
  ·rw [if_pos (by simpa using h2)] at he
   rw [if_neg (show ¬ (Grain.sapp k2.s b u).2=0 by rw [he];decide)]
   have h3:b<t-t%10∨b≤a:=.inr h2
   rw [if_pos h3]
   exact he
  ·rw [if_neg (by simpa using h2)] at he
   have h3:¬ (b<t-t%10∨b≤a):=fun h=>h.elim h1 h2
   rw [if_neg h3,if_pos he]
theorem late_other {s s':Lb} (hs:wrongS s=0) (hs':wrongS s'=0) (hlt:cmpS s s'<0) {a t b v u:Int} (ha:Grain.inR a v=true) (ht0:0≤t) (ht1:t≤1000000) (hb:Grain.inR b u=true) :
  (takeB (rollB (takeB b0 s a v).1 t).1 s' b u).2=if b<t-t%10 then 9 else 0:=by
 have i1:BInv (takeB b0 s a v).1:=takeB_inv b0_inv s a v
 have w1:FewB 500 (takeB b0 s a v).1:=(takeB_few (m:=0) (b:=b0) (fun k hk=>by simp [b0] at hk) s a v).mono (by omega)
 have i2:BInv (rollB (takeB b0 s a v).1 t).1:=rollB_inv i1 t
 rw [rollB_ok i1 w1 ht0 ht1] at i2 ⊢
 rw [take_first hs ha] at i1 w1 i2 ⊢
 simp only at i2 ⊢
 obtain ⟨k1,hk1⟩:∃ k:Kp,k=⟨{ newS s with ra:=[(a,v)] },[(a,v)]⟩:=⟨_,rfl⟩
 rw [← hk1] at i1 w1 i2 ⊢
 have hse1:k1.s.se=s:=by rw [hk1];rfl
 have hr:=Grain.sroll_ok (i1.kee k1 (by simp)) (w1 k1 (by simp)) ht0 ht1
 simp only [List.map_cons,List.map_nil] at i2 ⊢
 obtain ⟨k2,hk2⟩:∃ k:Kp,k=⟨(Grain.sroll k1.s t).1,k1.A⟩:=⟨_,rfl⟩
 rw [← hk2] at i2 ⊢
 have hse2:k2.s.se=s:=by rw [hk2];show (Grain.sroll k1.s t).1.se=s;rw [(sroll_same hr).1,hse1]
 have hg:max 0 (Grain.beg t 10)=t-t%10:=by unfold Grain.beg;omega
 rw [hg] at i2 ⊢
 have hz:=i2.hz
 simp only at hz
 have hp:bpos [k2] s'=1:=by simp [bpos,hse2,hlt]
 have hh:bhas [k2] s'=false:=by simp [bhas,hp]
 unfold takeB
 rw [if_neg (by simp [hs']),if_neg (by rw [hb];decide)]
 simp only
 by_cases h1:b<t-t%10
 ·rw [if_pos h1,if_pos h1]
 ·rw [if_neg h1,if_neg (by rw [hh];decide),if_neg h1,hp]
  have hk0:Grain.Keeps (newS s') []:=Grain.keeps_new hs'
  have r0:=Grain.sroll_ok hk0 (by simp) hz.2.1 hz.2.2
  have k0:=Grain.keeps_roll hk0 r0
  have hra0:(Grain.sroll (newS s') (t-t%10)).1.ra=[]:=by rw [Grain.sroll_ra r0];rfl
  have he:=Grain.sapp_err k0 (by rw [hra0];simp) hb
  have hl:Grain.late (Grain.sroll (newS s') (t-t%10)).1 b=false:=by
   unfold Grain.late
   rw [(sroll_same r0).2,hra0]
   have:Grain.nft (newS s') (t-t%10)=t-t%10:=by
    show max 0 (Grain.beg (t-t%10) 10)=_
    unfold Grain.beg;omega
   rw [this]
   simp [h1]
  rw [hl,if_neg (by decide)] at he
  unfold putN
  rw [if_neg (by simp),if_neg (by simp [r0])]
  simp only
  rw [if_neg (by simp [he])]
end Go.GrainU
namespace Go.Proofs.YtoldmigappbjcaaGreatDoor
open Go.RowKit Go.GrainU
set_option maxHeartbeats 1000000 in
theorem tadd_any (h:ByteArray) (t v:Int) (w:World) (hh:h.size≤9223372036854775807) :
  Calls Tryz.prog 33 #[.string h,.int .i64 t,.int .i64 v] w fun e w'=>∃ S:Nat,e=.returned (.agg #[.int .i64 1,.int .i64 0,.int .i64 0,.slice (some ⟨S,0,none⟩) 1 1,.int .i64 t,.int .i64 v,.string ⟨#[]⟩])∧DIn w' ⟨dAdd h t v,some ⟨S,0,none⟩,1⟩∧Below w.heap.size w w':=by
 have FIN:∀ o,Hid (DIn ((w.alloc o).alloc (.cells #[.string hostB,.string h] 88)) ⟨dAdd h t v,some ⟨w.heap.size+1,0,none⟩,1⟩∧Below w.heap.size w ((w.alloc o).alloc (.cells #[.string hostB,.string h] 88))):=by
  intro o
  refine ⟨⟨?_,?_,fun h=>(by cases h),by show (ByteArray.mk #[]).size≤_;decide⟩,((Below.refl _ _).alloc (Nat.le_refl _) _).alloc (by simp) _⟩
  ·have:=seg_new (w.alloc o) #[.string hostB,.string h] 88
   simpa [dAdd,lcells] using this
  ·intro k hk
   have:k=0:=by simp [dAdd] at hk;exact hk
   subst this
   exact ⟨by show hostB.size≤_;decide,hh⟩
 have HF:=hide FIN
 clear FIN hh
 unfold hostB at HF
 go_enter Tryz.func33,Tryz.ntmps33
 go_wp2
 exact bodyPost_ret (v:=.agg #[.int .i64 1,.int .i64 0,.int .i64 0,.slice (some ⟨w.heap.size+1,0,none⟩) 1 1,.int .i64 t,.int .i64 v,.string ⟨#[]⟩]) (by simp [results,Tryz.results33,go_sem]) rfl ⟨_,rfl,(HF.out _).out.1,(HF.out _).out.2⟩
set_option maxHeartbeats 1000000 in
theorem task_any (s:ByteArray) (t:Int) (w:World) :
  Calls Tryz.prog 29 #[.string s,.int .i64 t] w fun e w'=>e=.returned (.agg #[.int .i64 4,.int .i64 0,.int .i64 t,.slice none 0 0,.int .i64 0,.int .i64 0,.string s])∧Below w.heap.size w w':=by
 have bel:∀ o,Below w.heap.size w (w.alloc o):=fun o=>(Below.refl _ _).alloc (Nat.le_refl _) _
 have HB:=hide bel
 clear bel
 go_enter Tryz.func29,Tryz.ntmps29
 go_wp2
 exact bodyPost_ret (v:=.agg #[.int .i64 4,.int .i64 0,.int .i64 t,.slice none 0 0,.int .i64 0,.int .i64 0,.string s]) (by simp [results,Tryz.results29,go_sem]) rfl ⟨rfl,HB.out _⟩
set_option maxHeartbeats 1000000 in
theorem troll_any (t:Int) (w:World) :
  Calls Tryz.prog 25 #[.int .i64 t] w fun e w'=>e=.returned (.agg #[.int .i64 2,.int .i64 0,.int .i64 t,.slice none 0 0,.int .i64 0,.int .i64 0,.string ⟨#[]⟩])∧Below w.heap.size w w':=by
 have bel:∀ o,Below w.heap.size w (w.alloc o):=fun o=>(Below.refl _ _).alloc (Nat.le_refl _) _
 have HB:=hide bel
 clear bel
 go_enter Tryz.func25,Tryz.ntmps25
 go_wp2
 exact bodyPost_ret (v:=.agg #[.int .i64 2,.int .i64 0,.int .i64 t,.slice none 0 0,.int .i64 0,.int .i64 0,.string ⟨#[]⟩]) (by simp [results,Tryz.results25,go_sem]) rfl ⟨rfl,HB.out _⟩
def lastA (l:List Dn):An:=if 120<l.length∨l.length=0 then ⟨1,0,[],0⟩ else (playB b0 l).2.getD (l.length-1) ⟨1,0,[],0⟩
set_option maxRecDepth 20000 in
set_option maxHeartbeats 2000000 in
theorem last_any (l:List DT) (ao:Option Addr) (n cap:Nat) (w:World) (hs:Seg w ao (dcells l)) (hd:∀ x∈l,DIn w x) (hn:n=l.length) (hv:ErrV w) :
  Calls Tryz.prog 28 #[.slice ao n cap] w fun e w'=>∃ y:AT,e=.returned (.agg #[.int .i64 y.a.err,.int .i64 y.a.pos,.slice y.co y.cts.length y.cap,.int .i64 y.a.cost])∧y.a=lastA (dns l)∧AnIn w' y∧Below w.heap.size w w':=by
 obtain ⟨V,hV⟩:∃ V,V=w.alloc (.cells #[.int .i64 0,.int .i64 0,.slice none 0 0,.int .i64 0] 48):=⟨_,rfl⟩
 have bel:Below w.heap.size w V:=by rw [hV];exact (Below.refl _ _).alloc (Nat.le_refl _) _
 have R0:V.heap[w.heap.size]?=some (.cells #[.int .i64 0,.int .i64 0,.slice none 0 0,.int .i64 0] 48 (0,0)):=by rw [hV];exact heap_alloc_new w _
 have P:=hide (play_any l ao n cap V (hs.below bel) (fun x hx=>(hd x hx).below bel) hn (hv.below bel))
 have HN:=hide hn
 have HV:=hide hV
 have hlen:(dns l).length=l.length:=by simp [dns]
 have HLen:=hide hlen
 clear hV hs hd hn hv hlen
 go_enter Tryz.func28,Tryz.ntmps28
 go_wp2_with fail
 rw [← HV.out]
 refine P.out.mono ?_
 intro e w1 hh
 have HH:=hide hh
 clear hh P
 rcases HH.out with ⟨h120,rfl,b1⟩ | ⟨h120,ro,oo,rn,rc,d,hz,sl,ys,rfl,hrow,hli,hhz,hout,hys,b1⟩
 ·have R1:=below_block b1 R0
  have bel1:Below w.heap.size w w1:=bel.trans (b1.mono bel.size)
  obtain ⟨W2,hW2⟩:∃ W2,W2=w1.alloc (.cells #[.slice none 0 0,.int .i64 0] 26):=⟨_,rfl⟩
  have b2:Below w1.heap.size w1 W2:=by rw [hW2];exact (Below.refl _ _).alloc (Nat.le_refl _) _
  have R2:=below_block b2 R1
  have bel2:Below w.heap.size w W2:=bel1.trans (b2.mono bel1.size)
  obtain ⟨r0,r1,r2,r3,f0,f1,f2,f3⟩:=four_cells R2
  have HA:Hid (lastA (dns l)=⟨1,0,[],0⟩):=by show _=_;unfold lastA;rw [HLen.out,if_pos (.inl h120)]
  have HW2:=hide hW2
  have HB2:=hide bel2
  clear HH hW2 R1 b1 b2 bel1 bel2 R0 R2
  go_upto_region 2 with fail
  rw [← HW2.out]
  go_wp2
  exact bodyPost_ret (v:=.agg #[.int .i64 1,.int .i64 0,.slice none 0 0,.int .i64 0]) (by simp [results,Tryz.results28,go_sem,r0,r1,r2,r3]) rfl ⟨⟨⟨1,0,[],0⟩,[],none,0⟩,rfl,HA.out.symm,⟨rfl,.inl rfl,fun c hc=>(by cases hc),.inl rfl,fun c hc=>(by cases hc)⟩,below_set4 HB2.out (Nat.le_refl _) _ _ _ _⟩
 ·have R1:=below_block b1 R0
  have bel1:Below w.heap.size w w1:=bel.trans (b1.mono bel.size)
  obtain ⟨W2,hW2⟩:∃ W2,W2=w1.alloc (.cells #[.slice ro rn rc,.int .i64 hz] 26):=⟨_,rfl⟩
  have b2:Below w1.heap.size w1 W2:=by rw [hW2];exact (Below.refl _ _).alloc (Nat.le_refl _) _
  have R2:=below_block b2 R1
  have bel2:Below w.heap.size w W2:=bel1.trans (b2.mono bel1.size)
  have out2:=hout.below b2
  obtain ⟨r0,r1,r2,r3,f0,f1,f2,f3⟩:=four_cells R2
  have hnl:n=l.length:=HN.out
  have HW2:=hide hW2
  have HB2:=hide bel2
  have HO:=hide out2
  have HYS:=hide hys
  have HR2:=hide R2
  rw [← hnl] at out2 h120 ⊢
  clear HH hW2 R1 b1 b2 bel1 bel2 R0 R2 hrow hli hhz hout hys hnl
  by_cases h0:n=0
  ·have HA:Hid (lastA (dns l)=⟨1,0,[],0⟩):=by show _=_;unfold lastA;rw [HLen.out,← HN.out,if_pos (.inr h0)]
   subst h0
   clear out2
   go_upto_region 2 with fail
   rw [← HW2.out]
   go_wp2
   exact bodyPost_ret (v:=.agg #[.int .i64 1,.int .i64 0,.slice none 0 0,.int .i64 0]) (by simp [results,Tryz.results28,go_sem,r0,r1,r2,r3]) rfl ⟨⟨⟨1,0,[],0⟩,[],none,0⟩,rfl,HA.out.symm,⟨rfl,.inl rfl,fun c hc=>(by cases hc),.inl rfl,fun c hc=>(by cases hc)⟩,below_set4 HB2.out (Nat.le_refl _) _ _ _ _⟩
  ·obtain ⟨m,hm⟩:∃ m,m=n-1:=⟨_,rfl⟩
   have hm1:n=m+1:=by omega
   have hyl:=out2.len
   obtain ⟨y,hy⟩:∃ y,y=ys.getD m ⟨⟨1,0,[],0⟩,[],none,0⟩:=⟨_,rfl⟩
   have hmy:m<ys.length:=by omega
   have yin:AnIn W2 y:=by
    rw [hy]
    refine out2.ans _ ?_
    simp only [List.getD,List.getElem?_eq_getElem hmy,Option.getD_some];exact List.getElem_mem hmy
   have HA:Hid (y.a=lastA (dns l)):=by
    show _=_
    unfold lastA
    rw [HLen.out,← HN.out,if_neg (by omega),← hm,← HYS.out,hy]
    simp [List.getD,List.getElem?_eq_getElem hmy]
   obtain ⟨bb,off,hoo,hcs⟩:∃ b off,oo=some ⟨b,off,none⟩∧∀ j,j<(acells4 ys).length→W2.cell? ⟨b,off+j,none⟩=(acells4 ys)[j]?:=by
    rcases own_seg' out2.own with h | ⟨b,off,h1,h2⟩
    ·have:=acells4_length ys
     rw [h] at this
     simp at this
     omega
    ·exact ⟨b,off,h1,h2⟩
   have hal:=acells4_length ys
   have cc:∀ j,j<4→W2.cell? ⟨bb,off+m*4+j,none⟩=y.cells[j]?:=fun j hj=>by
    rw [hy,← acells4_at ys m j hmy hj,Nat.add_assoc];exact hcs (m*4+j) (by omega)
   obtain ⟨y0,hy0⟩:∃ y0,y0=y.a.err:=⟨_,rfl⟩
   obtain ⟨y1,hy1⟩:∃ y1,y1=y.a.pos:=⟨_,rfl⟩
   obtain ⟨y2,hy2⟩:∃ y2,y2=y.cts.length:=⟨_,rfl⟩
   obtain ⟨y3,hy3⟩:∃ y3,y3=y.a.cost:=⟨_,rfl⟩
   have q0:W2.cell? ⟨bb,off+m*4,none⟩=some (.int .i64 y0):=by rw [hy0];exact cc 0 (by omega)
   have q1:W2.cell? ⟨bb,off+m*4+1,none⟩=some (.int .i64 y1):=by rw [hy1];exact cc 1 (by omega)
   have q2:W2.cell? ⟨bb,off+m*4+2,none⟩=some (.slice y.co y2 y.cap):=by rw [hy2];exact cc 2 (by omega)
   have q3:W2.cell? ⟨bb,off+m*4+3,none⟩=some (.int .i64 y3):=by rw [hy3];exact cc 3 (by omega)
   have FIN:Hid (∃ y:AT,(Ending.returned (.agg #[.int .i64 y0,.int .i64 y1,.slice (ys.getD m ⟨⟨1,0,[],0⟩,[],none,0⟩).co y2 (ys.getD m ⟨⟨1,0,[],0⟩,[],none,0⟩).cap,.int .i64 y3]))=.returned (.agg #[.int .i64 y.a.err,.int .i64 y.a.pos,.slice y.co y.cts.length y.cap,.int .i64 y.a.cost])∧y.a=lastA (dns l)∧AnIn (Set4 W2 w.heap.size (.int .i64 y0) (.int .i64 y1) (.slice (ys.getD m ⟨⟨1,0,[],0⟩,[],none,0⟩).co y2 (ys.getD m ⟨⟨1,0,[],0⟩,[],none,0⟩).cap) (.int .i64 y3)) y∧Below w.heap.size w (Set4 W2 w.heap.size (.int .i64 y0) (.int .i64 y1) (.slice (ys.getD m ⟨⟨1,0,[],0⟩,[],none,0⟩).co y2 (ys.getD m ⟨⟨1,0,[],0⟩,[],none,0⟩).cap) (.int .i64 y3))):=by
    rw [← hy]
    exact ⟨y,by rw [hy0,hy1,hy2,hy3],HA.out,⟨yin.cs,csin_keep yin.inn HR2.out (by decide) (by decide) (set4_grown _ _ _ _ _ _)⟩,below_set4 HB2.out (Nat.le_refl _) _ _ _ _⟩
   rw [← hy] at FIN
   have hm2:(n:Int)-1=(m:Int):=by omega
   have hm3:IntKind.i64.wrap (m:Int)=(m:Int):=by rw [IntKind.wrap_i64];omega
   have hm4:(m:Int)<(n:Int):=by omega
   have hm5:m<n:=by omega
   have hn0:¬ ((n:Int)=0):=by omega
   have hn1:((n:Int) == 0)=false:=by simpa using hn0
   subst hoo
   clear out2 hcs cc hal yin HA hy hyl hmy hm hy0 hy1 hy2 hy3 HO HYS
   go_upto_region 2 with fail
   rw [← HW2.out]
   subst hm1
   go_wp2
   exact bodyPost_ret (v:=.agg #[.int .i64 y0,.int .i64 y1,.slice y.co y2 y.cap,.int .i64 y3]) (by simp [results,Tryz.results28,go_sem,r0,r1,r2,r3]) rfl FIN.out
def aliveL:List Dn:=[dAdd ⟨#[97]⟩ 5 7,dRoll 60,dAsk ⟨#[115,117,109,40,123,125,91,54,48,93,41]⟩ 60]
theorem aliveL_is:lastA aliveL=⟨0,0,[([(hostB,⟨#[97]⟩)],7)],1⟩:=by kernel_rfl
theorem dcells3 (x y z:DT):dcells [x,y,z]=x.cells++(y.cells++z.cells):=by simp [dcells]
theorem last3 (a b c:DT) (w:World) (arr:Array Value) (ha:arr.toList=a.cells++(b.cells++c.cells)) (da:DIn w a) (db:DIn w b) (dc:DIn w c) (hv:ErrV w) :
  Calls Tryz.prog 28 #[.slice (some ⟨w.heap.size,0,none⟩) 3 3] (w.alloc (.cells arr 36)) fun e w'=>∃ y:AT,e=.returned (.agg #[.int .i64 y.a.err,.int .i64 y.a.pos,.slice y.co y.cts.length y.cap,.int .i64 y.a.cost])∧y.a=lastA [a.d,b.d,c.d]∧AnIn w' y∧Below w.heap.size w w':=by
 have bel:Below w.heap.size w (w.alloc (.cells arr 36)):=(Below.refl _ _).alloc (Nat.le_refl _) _
 have hs:Seg (w.alloc (.cells arr 36)) (some ⟨w.heap.size,0,none⟩) (dcells [a,b,c]):=by
  rw [dcells3,← ha];exact seg_new w arr _
 refine (last_any [a,b,c] _ 3 3 _ hs (fun x hx=>?_) rfl (hv.below bel)).mono ?_
 ·simp at hx
  rcases hx with e | e | e
  ·rw [e];exact da.below bel
  ·rw [e];exact db.below bel
  ·rw [e];exact dc.below bel
 ·rintro e w' ⟨y,rfl,h1,h2,h3⟩
  exact ⟨y,rfl,h1,h2,bel.trans (h3.mono bel.size)⟩
set_option maxRecDepth 20000 in
set_option maxHeartbeats 4000000 in
theorem talive_any (w:World) (hv:ErrV w):Calls Tryz.prog 22 #[] w fun e w'=>e=.returned (.bool true)∧Below w.heap.size w w':=by
 have P1:=hide (tadd_any ⟨#[97]⟩ 5 7 w (by decide))
 have HV:=hide hv
 clear hv
 go_enter Tryz.func22,Tryz.ntmps22
 go_wp2_with fail
 refine P1.out.mono ?_
 rintro e w1 ⟨S,rfl,d1,b1⟩
 clear P1
 go_wp2_with fail
 refine (troll_any 60 w1).mono ?_
 rintro e w2 ⟨rfl,b2⟩
 have bel2:Below w.heap.size w w2:=b1.trans (b2.mono b1.size)
 have D1:=d1.below b2
 clear d1 b1 b2
 go_wp2_with fail
 refine (task_any ⟨#[115,117,109,40,123,125,91,54,48,93,41]⟩ 60 w2).mono ?_
 rintro e w3 ⟨rfl,b3⟩
 have bel3:Below w.heap.size w w3:=bel2.trans (b3.mono bel2.size)
 have P4:=hide (last3 ⟨dAdd ⟨#[97]⟩ 5 7,some ⟨S,0,none⟩,1⟩ ⟨dRoll 60,none,0⟩ ⟨dAsk ⟨#[115,117,109,40,123,125,91,54,48,93,41]⟩ 60,none,0⟩ w3 #[.int .i64 1,.int .i64 0,.int .i64 0,.slice (some ⟨S,0,none⟩) 1 1,.int .i64 5,.int .i64 7,.string ⟨#[]⟩,.int .i64 2,.int .i64 0,.int .i64 60,.slice none 0 0,.int .i64 0,.int .i64 0,.string ⟨#[]⟩,.int .i64 4,.int .i64 0,.int .i64 60,.slice none 0 0,.int .i64 0,.int .i64 0,.string ⟨#[115,117,109,40,123,125,91,54,48,93,41]⟩] rfl (D1.below b3) (din_none _ _ rfl (by show (ByteArray.mk #[]).size≤_;decide)) (din_none _ _ rfl (by show (ByteArray.mk #[115,117,109,40,123,125,91,54,48,93,41]).size≤_;decide)) (HV.out.below bel3))
 clear D1 bel2 b3
 go_wp2_with fail
 refine P4.out.mono ?_
 rintro e w4 ⟨⟨ya,cts,co,cap⟩,rfl,hya,hyin,b4⟩
 have hya2:ya=⟨0,0,[([(hostB,⟨#[97]⟩)],7)],1⟩:=hya.trans aliveL_is
 have bel4:Below w.heap.size w w4:=bel3.trans (b4.mono bel3.size)
 have hcs:cls cts=[([(hostB,⟨#[97]⟩)],7)]:=by have:=hyin.cs;rw [hya2] at this;exact this
 have hl:cts.length=1:=by have:=congrArg List.length hcs;simpa [cls] using this
 have hk:0<cts.length:=by omega
 obtain ⟨b,off,hco,hbb,hcell⟩:=seg_cell hyin.inn.seg hk
 have hv0:(ct cts 0).v=7:=by
  match cts,hl,hcs with
  | [c],_,h =>
   simp [cls,CT.cl] at h
   exact h.2
 have q1:w4.cell? ⟨b,off+1,none⟩=some (.int .i64 7):=by
  have:=(hcell 0 hk).2
  rw [hv0] at this
  simpa using this
 have q0:w4.cell? ⟨b,off,none⟩=some (.slice (ct cts 0).sa (ct cts 0).ser.length (ct cts 0).sc):=by simpa using (hcell 0 hk).1
 simp only at hco
 rw [hya2,hl,hco]
 have bA:∀ o,Below w.heap.size w (w4.alloc o):=fun o=>bel4.alloc bel4.size _
 have HB:=hide bA
 have h3:=bel4.size
 clear P4 hya hyin hya2 hcs hcell hv0 hl hk bel4 b4 bel3 bA HV
 simp only
 go_wp2
 go_ret
 exact ⟨rfl,HB.out _⟩
open Go.RowKit Go.GrainU
def aB:ByteArray:=⟨#[97]⟩
def bB:ByteArray:=⟨#[98]⟩
theorem late_a {a t b:Int} (ha:0≤a∧a≤1000) (ht:0≤t∧t≤1000) (hb:0≤b∧b≤1000):(lastA [dAdd aB a 1,dRoll t,dAdd aB b 2]).err=if b<t-t%10∨b≤a then 9 else 0:=by
 unfold lastA
 rw [lastA3]
 have h1:(doB b0 (dAdd aB a 1)).1=(takeB b0 [(hostB,aB)] a 1).1:=rfl
 rw [h1]
 have h2:∀ x,(doB x (dRoll t)).1=(rollB x t).1:=fun x=>rfl
 rw [h2]
 exact late_same (s:=[(hostB,aB)]) (a:=a) (t:=t) (b:=b) (v:=1) (u:=2) (by kernel_rfl) (by simp [Grain.inR];omega) ht.1 (by omega) (by simp [Grain.inR];omega)
theorem late_b {a t b:Int} (ha:0≤a∧a≤1000) (ht:0≤t∧t≤1000) (hb:0≤b∧b≤1000):(lastA [dAdd aB a 1,dRoll t,dAdd bB b 2]).err=if b<t-t%10 then 9 else 0:=by
 unfold lastA
 rw [lastA3]
 have h1:(doB b0 (dAdd aB a 1)).1=(takeB b0 [(hostB,aB)] a 1).1:=rfl
 rw [h1]
 have h2:∀ x,(doB x (dRoll t)).1=(rollB x t).1:=fun x=>rfl
 rw [h2]
 exact late_other (s:=[(hostB,aB)]) (s':=[(hostB,bB)]) (a:=a) (t:=t) (b:=b) (v:=1) (u:=2) (by kernel_rfl) (by kernel_rfl) (by decide +kernel) (by simp [Grain.inR];omega) ht.1 (by omega) (by simp [Grain.inR];omega)
theorem tthree_any (h1 h2:ByteArray) (a t b:Int) (w:World) (S1 S2:Nat) (hv:ErrV w) (d1:DIn w ⟨dAdd h1 a 1,some ⟨S1,0,none⟩,1⟩) (d2:DIn w ⟨dAdd h2 b 2,some ⟨S2,0,none⟩,1⟩) :
  Calls Tryz.prog 28 #[.slice (some ⟨w.heap.size,0,none⟩) 3 3] (w.alloc (.cells #[.int .i64 1,.int .i64 0,.int .i64 0,.slice (some ⟨S1,0,none⟩) 1 1,.int .i64 a,.int .i64 1,.string ⟨#[]⟩,.int .i64 2,.int .i64 0,.int .i64 t,.slice none 0 0,.int .i64 0,.int .i64 0,.string ⟨#[]⟩,.int .i64 1,.int .i64 0,.int .i64 0,.slice (some ⟨S2,0,none⟩) 1 1,.int .i64 b,.int .i64 2,.string ⟨#[]⟩] 36)) fun e w'=>∃ (y1 y3:Int) (co:Option Addr) (M d:Nat),e=.returned (.agg #[.int .i64 (lastA [dAdd h1 a 1,dRoll t,dAdd h2 b 2]).err,.int .i64 y1,.slice co M d,.int .i64 y3])∧Below w.heap.size w w':=by
 refine (last3 ⟨dAdd h1 a 1,some ⟨S1,0,none⟩,1⟩ ⟨dRoll t,none,0⟩ ⟨dAdd h2 b 2,some ⟨S2,0,none⟩,1⟩ w _ rfl d1 (din_none _ _ rfl (by show (ByteArray.mk #[]).size≤_;decide)) d2 hv).mono ?_
 rintro e w' ⟨y,rfl,hy,_,hb⟩
 exact ⟨_,_,_,_,_,by rw [← hy],hb⟩
set_option maxRecDepth 20000 in
set_option maxHeartbeats 4000000 in
theorem tlate_any (a t b:Int) (w:World) (hv:ErrV w):Calls Tryz.prog 11 #[.int .i64 a,.int .i64 t,.int .i64 b] w fun e w'=>e=.returned (.bool true)∧Below w.heap.size w w':=by
 have P0:=hide (talive_any w hv)
 have HV:=hide hv
 clear hv
 by_cases hin:(0≤a∧a≤1000)∧(0≤t∧t≤1000)∧(0≤b∧b≤1000)
 ·obtain ⟨ha,ht,hb⟩:=hin
  have LA:=hide (late_a ha ht hb)
  have LB:=hide (late_b ha ht hb)
  have a1:¬ a<0:=by omega
  have a2:¬ 1000<a:=by omega
  have t1:¬ t<0:=by omega
  have t2:¬ 1000<t:=by omega
  have b1:¬ b<0:=by omega
  have b2:¬ 1000<b:=by omega
  go_enter Tryz.func11,Tryz.ntmps11
  go_wp2_with fail
  refine P0.out.mono ?_
  rintro e w1 ⟨rfl,b1'⟩
  have v1:=HV.out.below b1'
  have HB1:=hide b1'
  clear P0 b1' HV
  have A1:=hide (tadd_any aB a 1 w1 (by decide))
  unfold aB at A1
  go_wp2_with fail
  refine A1.out.mono ?_
  rintro e w2 ⟨S1,rfl,d1,b2'⟩
  have bel2:=below_step b2' HB1.out
  have v2:=v1.below b2'
  clear A1 HB1 v1 b2'
  go_wp2_with fail
  refine (troll_any t w2).mono ?_
  rintro e w3 ⟨rfl,b3'⟩
  have bel3:=below_step b3' bel2
  have v3:=v2.below b3'
  have d1':=d1.below b3'
  clear d1 bel2 v2 b3'
  have A2:=hide (tadd_any aB b 2 w3 (by decide))
  unfold aB at A2
  go_wp2_with fail
  refine A2.out.mono ?_
  rintro e w4 ⟨S2,rfl,d2,b4'⟩
  have bel4:=below_step b4' bel3
  have v4:=v3.below b4'
  have PL:=hide (tthree_any aB aB a t b w4 S1 S2 v4 (d1'.below b4') d2)
  rw [LA.out] at PL
  clear A2 d1' d2 bel3 v3 b4' LA
  obtain ⟨E1,hE1⟩:∃ E,E=(if b<t-t%10∨b≤a then (9:Int) else 0):=⟨_,rfl⟩
  rw [← hE1] at PL
  have HE1:=hide hE1
  clear hE1
  go_wp2_with fail
  refine PL.out.mono ?_
  rintro e w5 ⟨y1,y3,co,M,d,rfl,b5'⟩
  have bel5:=below_step b5' bel4
  have v5:=v4.below b5'
  clear PL v4 bel4 b5'
  obtain ⟨W5,hW5⟩:∃ W5,W5=w5.alloc (.cells #[.int .i64 E1,.int .i64 y1,.slice co M d,.int .i64 y3] 48):=⟨_,rfl⟩
  have b5:Below w5.heap.size w5 W5:=by rw [hW5];exact (Below.refl _ _).alloc (Nat.le_refl _) _
  have X5:W5.heap[w5.heap.size]?=some (.cells #[.int .i64 E1,.int .i64 y1,.slice co M d,.int .i64 y3] 48 (0,0)):=by rw [hW5];exact heap_alloc_new w5 _
  have bel6:=below_step b5 bel5
  have v6:=v5.below b5
  have HW5:=hide hW5
  clear hW5 bel5 v5 b5
  have A3:=hide (tadd_any aB a 1 W5 (by decide))
  unfold aB at A3
  go_wp2_with fail
  rw [← HW5.out]
  refine A3.out.mono ?_
  rintro e w7 ⟨S3,rfl,d3,b7'⟩
  have bel7:=below_step b7' bel6
  have v7:=v6.below b7'
  have X7:=below_block b7' X5
  clear A3 bel6 v6 b7' X5
  go_wp2_with fail
  refine (troll_any t w7).mono ?_
  rintro e w8 ⟨rfl,b8'⟩
  have bel8:=below_step b8' bel7
  have v8:=v7.below b8'
  have X8:=below_block b8' X7
  have d3':=d3.below b8'
  clear d3 bel7 v7 b8' X7
  have A4:=hide (tadd_any bB b 2 w8 (by decide))
  unfold bB at A4
  go_wp2_with fail
  refine A4.out.mono ?_
  rintro e w9 ⟨S4,rfl,d4,b9'⟩
  have bel9:=below_step b9' bel8
  have v9:=v8.below b9'
  have X9:=below_block b9' X8
  have PL2:=hide (tthree_any aB bB a t b w9 S3 S4 v9 (d3'.below b9') d4)
  rw [LB.out] at PL2
  clear A4 d3' d4 bel8 v8 b9' LB X8
  obtain ⟨E2,hE2⟩:∃ E,E=(if b<t-t%10 then (9:Int) else 0):=⟨_,rfl⟩
  rw [← hE2] at PL2
  have HE2:=hide hE2
  clear hE2
  go_wp2_with fail
  refine PL2.out.mono ?_
  rintro e w10 ⟨z1,z3,co2,M2,d2,rfl,b10'⟩
  have bel10:=below_step b10' bel9
  have X10:=below_block b10' X9
  have hs10:w5.heap.size<w10.heap.size:=lt_of_block X10
  have c10:w10.cell? ⟨w5.heap.size,0,none⟩=some (.int .i64 E1):=by simp [World.cell?,X10]
  have HB10:Hid (∀ o,Below w.heap.size w (w10.alloc o)):=fun o=>bel10.alloc bel10.size _
  clear PL2 v9 bel9 b10' X9 X10 bel10
  by_cases h1:b<t-t%10
  ·have e1:E1=9:=by rw [HE1.out,if_pos (.inl h1)]
   have e2:E2=9:=by rw [HE2.out,if_pos h1]
   subst e1
   subst e2
   clear HE1 HE2
   go_wp2
   go_ret
   exact ⟨rfl,HB10.out _⟩
  ·have e2:E2=0:=by rw [HE2.out,if_neg h1]
   have hd:decide (b<t-t%10)=false:=by simpa using h1
   subst e2
   by_cases h2:b≤a
   ·have e1:E1=9:=by rw [HE1.out,if_pos (.inr h2)]
    subst e1
    clear HE1 HE2
    go_wp2
    exact bodyPost_ret (v:=.bool true) (by simp [results,Tryz.results11,go_sem]) rfl ⟨rfl,HB10.out _⟩
   ·have e1:E1=0:=by rw [HE1.out,if_neg (fun h=>h.elim h1 h2)]
    subst e1
    clear HE1 HE2
    go_wp2
    exact bodyPost_ret (v:=.bool true) (by simp [results,Tryz.results11,go_sem];omega) rfl ⟨rfl,HB10.out _⟩
 ·have hno:a<0∨t<0∨b<0∨1000<a∨1000<t∨1000<b:=by omega
  clear HV
  go_enter Tryz.func11,Tryz.ntmps11
  go_wp2_with fail
  refine P0.out.mono ?_
  rintro e w1 ⟨rfl,b1'⟩
  clear P0
  by_cases c1:a<0
  ·clear hin hno;go_wp2;go_ret;exact ⟨rfl,b1'⟩
  by_cases c2:t<0
  ·clear hin hno;go_wp2;go_ret;exact ⟨rfl,b1'⟩
  by_cases c3:b<0
  ·clear hin hno;go_wp2;go_ret;exact ⟨rfl,b1'⟩
  by_cases c4:1000<a
  ·clear hin hno;go_wp2;go_ret;exact ⟨rfl,b1'⟩
  by_cases c5:1000<t
  ·clear hin hno;go_wp2;go_ret;exact ⟨rfl,b1'⟩
  by_cases c6:1000<b
  ·clear hin hno;go_wp2;go_ret;exact ⟨rfl,b1'⟩
  ·omega
end Go.Proofs.YtoldmigappbjcaaGreatDoor
