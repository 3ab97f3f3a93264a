import Derived.Deep.CutRange
import Derived.Deep.RegionWith
import Derived.Test.YtoldmigappbjcaaGreatDoorK07
import Derived.Test.YtoldmigappbjcaaGreatDoorK13
import Derived.Test.YtoldmigappbjcaaGreatDoorK28
import Derived.Test.YtoldmigappbjcaaGreatDoorK30
namespace Go.GrainU
open Go.RowKit
theorem winT_ser {S S':Nat→Except Int Grain.Sm} {h:Hd} {l l':List ST} (hl:∀ k,(st l k).ser=(st l' k).ser):∀ n,(∀ k,k<n→S k=S' k)→winT S h l n=winT S' h l' n
 | 0,_=>rfl
 | n+1,hS=>by rw [winT,winT,winT_ser hl n (fun k hk=>hS k (by omega)),hl n,hS n (by omega)]
theorem winKT_ser {K K':Nat→Nat} {h:Hd} {l l':List ST} (hl:∀ k,(st l k).ser=(st l' k).ser):∀ n,(∀ k,k<n→K k=K' k)→winKT K h l n=winKT K' h l' n
 | 0,_=>rfl
 | n+1,hS=>by rw [winKT,winKT,winKT_ser hl n (fun k hk=>hS k (by omega)),hl n,hS n (by omega)]
theorem st_sersT {l:List ShT} {b:List Kp} (hL:l.map (fun x=>x.s)=b.map (fun k=>k.s)) (k:Nat):(st (sersT l) k).ser=(st (sersB b) k).ser:=by
 have e:(sersT l).map (fun x=>x.ser)=(sersB b).map (fun x=>x.ser):=by
  have:=congrArg (List.map fun (s:Grain.Shf)=>s.se) hL
  simpa [sersT,sersB,Function.comp_def] using this
 have h1:=congrArg (fun L=>L[k]?) e
 simp only [List.getElem?_map] at h1
 unfold st
 simp only [List.getD]
 cases h2:(sersT l)[k]? with
 | none=>rw [h2] at h1;cases h3:(sersB b)[k]? with
  | none=>rfl
  | some y=>rw [h3] at h1;simp at h1
 | some x=>rw [h2] at h1;cases h3:(sersB b)[k]? with
  | none=>rw [h3] at h1;simp at h1
  | some y=>rw [h3] at h1;simpa using h1
end Go.GrainU
namespace Go.Proofs.YtoldmigappbjcaaGreatDoor
open Go.RowKit Go.GrainU
structure AT where
 a:An
 cts:List CT
 co:Option Addr
 cap:Nat
def AT.v (x:AT):Value:=.agg #[.int .i64 x.a.err,.int .i64 x.a.pos,.slice x.co x.cts.length x.cap,.int .i64 x.a.cost]
structure AnIn (w:World) (x:AT):Prop where
 cs:cls x.cts=x.a.cs
 inn:CsIn w x.co x.cts
def APost (a:An) (w:World) (e:Ending) (w':World):Prop:=∃ x:AT,e=.returned x.v∧x.a=a∧AnIn w' x∧Below w.heap.size w w'
theorem BIn.bel {V w':World} {lo B n cap C:Nat} {ao:Option Addr} {hz c:Int} {l:List ShT} (h:BIn V lo B ao n cap hz l) (hC:V.heap[C]?=some (.cells #[.int .i64 c] 3 (0,0))) (hb:Bel (some C) V.heap.size V w'):BIn w' lo B ao n cap hz l:=by
 have hg:V.grownBy w' (some C):=⟨hb.os,hb.tape,hb.output,hb.size,fun k hk hne=>hb.block k hk (fun e=>hne e.symm)⟩
 refine ⟨?_,h.row.keep hC ⟨by decide,by decide,by decide,by decide⟩ hg,h.loB⟩
 rw [hb.block B (lt_of_block h.b) (fun e=>by
  injection e with e
  subst e
  have h1:=h.b
  rw [hC] at h1
  injection h1 with h1
  injection h1 with _ h2 _
  exact absurd h2 (by decide))]
 exact h.b
theorem bover_base (b:Bs) (hb:BInv b) (h5:FewB 500 b) (t:ET) (time:Int) (l:List ShT) (lo B n cap C1 C2 Q:Nat) (ao:Option Addr) (V:World) (hB:BIn V lo B ao n cap b.hz l) (hL:Lies l b.l) (k1:V.heap[C1]?=some (.cells #[.pointer (some ⟨B,0,none⟩)] 115 (0,0))) (k2:V.heap[C2]?=some (.cells #[.int .i64 0] 3 (0,0))) (hs:Seg V (some ⟨Q,0,none⟩) (hcells (sersT l))) (hin:t.In V) :
  Calls Tryz.prog 40 #[.slice (some ⟨Q,0,none⟩) n n,eval t,.int .i64 time,.func (.func 102) #[] #[.pointer (some ⟨C1,0,none⟩),.pointer (some ⟨C2,0,none⟩)]] V fun e w'=>((∃ x:Int,x≠0∧askE b time t.ex=.error x∧e=.returned (.tuple #[.slice none 0 0,.int .i64 x])) ∨
   ∃ nb cts co M d,e=.returned (.tuple #[.slice co M d,.int .i64 0])∧askE b time t.ex=.ok ⟨nb,cls cts⟩∧M=cts.length∧CsIn w' co cts∧w'.heap[C2]?=some (.cells #[.int .i64 (wrap64 (askK b time t.ex))] 3 (0,0)))∧Bel (some C2) V.heap.size V w':=by
 have hn:=hB.row.len
 have hl:=hL.len
 have h8:=hb.len
 have hC12:C1≠C2:=fun e=>by
  subst e
  rw [k1] at k2
  injection k2 with k2
  injection k2 with _ h2 _
  exact absurd h2 (by decide)
 have hC2:C2<V.heap.size:=lt_of_block k2
 have hser:=st_sersT hL
 have hSl:∀ i,i<n→(sht l i).s=(kp b.l i).s:=fun i hi=>hL.at (by omega)
 have hBs:Beside (some C2) V.heap.size (fun c w'=>w'.heap[C2]?=some (.cells #[.int .i64 (wrap64 c)] 3 (0,0))∧Bel (some C2) V.heap.size V w') :=
  ⟨fun C h=>by injection h with h;omega,fun c w1 w2 h1 h2=>⟨by rw [h2.block C2 hC2];exact h1.1,h1.2.trans (Bel.of h2 _)⟩,fun c w1 h1=>Solo.of h1.1⟩
 have hSs:SsIn V (some ⟨Q,0,none⟩) (sersT l):=by
  refine ⟨hs,fun x hx=>?_,fun x hx=>?_,fun x hx=>?_⟩
  ·obtain ⟨y,hy,rfl⟩:=List.mem_map.1 hx;exact (hB.row.shs y hy).shIn.g0
  ·obtain ⟨y,hy,rfl⟩:=List.mem_map.1 hx;exact (hB.row.shs y hy).shIn.z0
  ·obtain ⟨y,hy,rfl⟩:=List.mem_map.1 hx
   obtain ⟨j,hj,rfl⟩:=List.mem_iff_getElem.1 hy
   have e:=hL.at hj
   rw [sht_get hj] at e
   show l[j].s.se.length≤4
   rw [e]
   exact wrongS_len (hb.kee _ (kp_mem (by omega))).sr.se
 have eW:overW (fun i f t=>lookS (kp b.l i).s f t) (sersT l) n time=overW (fun i f t=>lookS (kp b.l i).s f t) (sersB b.l) b.l.length time:=by
  funext h
  unfold overW
  rw [show n=b.l.length from by omega]
  exact winT_ser hser _ (fun k _=>rfl)
 have eC:overC (fun i f t=>lookK (kp b.l i).s f t) (sersT l) n time=overC (fun i f t=>lookK (kp b.l i).s f t) (sersB b.l) b.l.length time:=by
  funext h
  unfold overC
  rw [show n=b.l.length from by omega]
  exact winKT_ser hser _ (fun k _=>rfl)
 have eE:overE (fun i f t=>lookS (kp b.l i).s f t) (sersT l) n time t.ex=askE b time t.ex:=by unfold askE overE;rw [eW]
 have eK:overK (fun i f t=>lookK (kp b.l i).s f t) (sersT l) n time t.ex=askK b time t.ex:=by unfold askK overK;rw [eC]
 have key:=bover_any C1 C2 (sersT l) t (fun i f t=>lookS (kp b.l i).s f t) (fun i f t=>lookK (kp b.l i).s f t) (fun c w'=>w'.heap[C2]?=some (.cells #[.int .i64 (wrap64 c)] 3 (0,0))∧Bel (some C2) V.heap.size V w') (some C2) V.heap.size hBs (some ⟨Q,0,none⟩) n n time V 0 ⟨by rw [show wrap64 ((0:Nat):Int)=0 from by unfold wrap64;simp];exact k2,Bel.refl _ _ _⟩ (Nat.le_refl _) hSs hin (by rw [sersT_len];exact hn) (by omega) (base_bd hb h5 time) (by rw [eW];exact base_gd hb h5 time) ?_
 ·rw [eE,eK] at key
  refine key.mono ?_
  rintro e w' ⟨hp,hbel⟩
  refine ⟨?_,hbel⟩
  rcases hp with ⟨x,hx,ho,he⟩ | ⟨nb,cts,co,M,d,he,ho,hM,hC,hI⟩
  ·exact .inl ⟨x,hx,ho,he⟩
  ·refine .inr ⟨nb,cts,co,M,d,he,ho,hM,hC,?_⟩
   have:=hI.1
   simpa using this
 ·intro ht0 ht1 i a w' c' hi ha hat hI' hbel'
  have hB':=hB.bel k2 hbel'
  have hc1:w'.cell? ⟨C1,0,none⟩=some (.pointer (some ⟨B,0,none⟩)):=by
   have:w'.heap[C1]?=_:=(hbel'.block C1 (lt_of_block k1) (fun e=>hC12 (by injection e with e;exact e.symm))).trans k1
   simp [World.cell?,this]
  refine (bask1_any C1 C2 B lo n cap i ao b.hz a time c' l w' hc1 hI'.1 hB' hi).mono ?_
  rintro e w'' ⟨J,N,E,rfl,hJ,hc2,hbel2⟩
  rw [hSl i hi] at hJ
  refine ⟨?_,hbel2⟩
  rcases hJ with ⟨h0,h1⟩ | ⟨h0,h1,h2⟩
  ·exact .inl ⟨E,J,h0,h1,rfl⟩
  ·refine .inr ⟨J,h1,by rw [h0],?_,bel_step hbel2 hI'.2⟩
   rw [hc2]
   have hN:N=((lookK (kp b.l i).s a time:Nat):Int):=by
    rw [h2]
    unfold lookK
    have:0≤(Grain.read (kp b.l i).s (Grain.choose (kp b.l i).s a time).1).2.1:=by
     unfold Grain.read
     split
     ·simp
     ·split
      ·simp
      ·simp
    omega
   rw [hN]
   simp
open Go.RowKit Go.GrainU
theorem four_cells {w:World} {B:Nat} {a b c d:Value} {t:TypeId} (h:w.heap[B]?=some (.cells #[a,b,c,d] t (0,0))) :
  w.cell? ⟨B,0,none⟩=some a∧w.cell? ⟨B,1,none⟩=some b∧w.cell? ⟨B,2,none⟩=some c∧w.cell? ⟨B,3,none⟩=some d∧w.frozen? ⟨B,0,none⟩=false∧w.frozen? ⟨B,1,none⟩=false∧w.frozen? ⟨B,2,none⟩=false∧w.frozen? ⟨B,3,none⟩=false:=by
 simp [World.cell?,World.frozen?,h]
def Set4 (w:World) (B:Nat) (a b c d:Value):World:=(((w.setCell ⟨B,0,none⟩ a).setCell ⟨B,1,none⟩ b).setCell ⟨B,2,none⟩ c).setCell ⟨B,3,none⟩ d
theorem below_set4 {w w':World} {base B:Nat} (h:Below base w w') (hb:base≤B) (a b c d:Value):Below base w (Set4 w' B a b c d):=(((h.setCell hb _).setCell hb _).setCell hb _).setCell hb _
theorem set4_grown (w:World) (B:Nat) (a b c d:Value):w.grownBy (Set4 w B a b c d) (some B):=by
 unfold Set4
 have tr:∀ {a b:World} {i:Nat} {u:Value},a.grownBy b (some B)→a.grownBy (b.setCell ⟨B,i,none⟩ u) (some B):=fun h=>grown_trans h grown_set (fun k hk=>.inl hk)
 exact tr (tr (tr (tr ⟨rfl,rfl,rfl,Nat.le_refl _,fun _ _ _=>rfl⟩)))
theorem csin_keep {w w':World} {co:Option Addr} {l:List CT} {k:Nat} {c:Array Value} {t:TypeId} {fr:Nat×Nat} (h:CsIn w co l) (hk:w.heap[k]?=some (.cells c t fr)) (t1:t≠79) (t2:t≠88) (hg:w.grownBy w' (some k)):CsIn w' co l:=by
 have same:∀ {T:Nat} {b:Nat} {arr:Array Value} {f:Nat×Nat},t≠T→w.heap[b]?=some (.cells arr T f)→w'.heap[b]?=w.heap[b]?:=fun {T b arr f} hT hb=>by
  refine hg.block b (lt_of_block hb) (fun e=>?_)
  injection e with e
  subst e
  rw [hk] at hb
  injection hb with hb
  injection hb with _ h2 _
  exact hT h2
 have sg:∀ {T:Nat} {ao:Option Addr} {xs:List Value},t≠T→Seg w ao xs→(xs=[]∨Typ w T ao)→Seg w' ao xs∧(xs=[]∨Typ w' T ao):=fun {T ao xs} hT hs hty=>by
  rcases hty with h0 | ⟨b,off,arr,f,e,hb⟩
  ·exact ⟨.inl h0,.inl h0⟩
  ·have hs2:=same hT hb
   refine ⟨?_,.inr ⟨b,off,arr,f,e,hs2.trans hb⟩⟩
   rcases hs with h0 | ⟨b',off',e',hc⟩
   ·exact .inl h0
   ·rw [e] at e'
    injection e' with e'
    injection e' with e1 e2 _
    subst e1
    exact .inr ⟨b,off',by rw [e,e2],fun j hj=>by rw [cell_of_block hs2];exact hc j hj⟩
 exact ⟨(sg t1 h.seg h.ty).1,fun x hx=>(sg t2 (h.ser x hx) (h.tl x hx)).1,(sg t1 h.seg h.ty).2,fun x hx=>(sg t2 (h.ser x hx) (h.tl x hx)).2⟩
set_option maxRecDepth 100000 in
set_option maxHeartbeats 4000000 in
theorem bask_any (b:Bs) (hb:BInv b) (h5:FewB 500 b) (tx:ByteArray) (time:Int) (l:List ShT) (lo B n cap:Nat) (ao:Option Addr) (w:World) (hB:BIn w lo B ao n cap b.hz l) (hL:Lies l b.l) (hs63:tx.size≤9223372036854775807) (hv:ErrV w) :
  Calls Tryz.prog 60 #[.pointer (some ⟨B,0,none⟩),.string tx,.int .i64 time] w (APost (askB b tx time) w):=by
 obtain ⟨X,hX⟩:∃ X,X=w.heap.size:=⟨_,rfl⟩
 obtain ⟨V,hV⟩:∃ V,V=(w.alloc (.cells #[.pointer (some ⟨B,0,none⟩)] 115)).alloc (.cells #[.int .i64 0,.int .i64 0,.slice none 0 0,.int .i64 0] 48):=⟨_,rfl⟩
 have bel:Below w.heap.size w V:=by rw [hV];exact ((Below.refl _ _).alloc (Nat.le_refl _) _).alloc (by simp) _
 have C0:V.heap[X]?=some (.cells #[.pointer (some ⟨B,0,none⟩)] 115 (0,0)):=by rw [hV,hX,Below.heap_alloc _ _ _ (by simp)];exact heap_alloc_new w _
 have R0:V.heap[X+1]?=some (.cells #[.int .i64 0,.int .i64 0,.slice none 0 0,.int .i64 0] 48 (0,0)):=by
  have:=heap_alloc_new (w.alloc (.cells #[.pointer (some ⟨B,0,none⟩)] 115)) (.cells #[.int .i64 0,.int .i64 0,.slice none 0 0,.int .i64 0] 48)
  rw [hV,hX];simpa using this
 have P:=hide (parse_any tx V hs63 (hv.below bel))
 have HBV:=hide (hB.below bel)
 have HL:=hide hL
 have hn8:n≤8:=by have:=hB.row.len;have:=hL.len;have:=hb.len;omega
 have HV:=hide hV
 have hXw:w.heap.size≤X:=by omega
 have HX:=hide hX
 have HASK:Hid (askB b tx time=match prs tx.data.toList with | .error f=>⟨f.1,((tx.size-f.2:Nat):Int),[],0⟩ | .ok e=>anE b time e):=rfl
 clear hV hB hL
 rw [hX] at C0 R0
 go_enter Tryz.func60,Tryz.ntmps60
 go_wp2_with fail
 rw [← HV.out]
 refine P.out.mono ?_
 intro e w1 hh
 obtain ⟨hp,b1⟩:=hh
 have bel1:Below w.heap.size w w1:=bel.trans (b1.mono bel.size)
 have C1:=below_block b1 C0
 have R1:=below_block b1 R0
 have HP:=hide hp
 clear P hp C0 R0
 rcases HP.out with ⟨t,hx,rfl,hin⟩ | ⟨f,hf,rfl⟩
 ·have HA:Hid (askB b tx time=anE b time t.ex):=by show _=_;rw [HASK.out,hx]
  obtain ⟨W3,hW3⟩:∃ W3,W3=((w1.alloc (.cells #[.int .i64 t.hd.kind,.int .i64 t.hd.n,.int .i64 t.hd.range,.string t.hd.word,.slice t.sp.ma t.hd.ms.length t.sp.mc,.slice t.sp.ba t.hd.bs.length t.sp.bc,.slice t.sp.ka t.kids.length t.sp.kc] 41)).alloc (.cells #[.int .i64 0,.int .i64 0] 43)).alloc (.cells #[.int .i64 0] 3):=⟨_,rfl⟩
  have b3:Below w1.heap.size w1 W3:=by rw [hW3];exact (((Below.refl _ _).alloc (Nat.le_refl _) _).alloc (by simp) _).alloc (by simp;omega) _
  have bel3:Below w.heap.size w W3:=bel1.trans (b3.mono bel1.size)
  have bV3:Below V.heap.size V W3:=b1.trans (b3.mono b1.size)
  have E3:W3.heap[w1.heap.size]?=some (.cells #[.int .i64 t.hd.kind,.int .i64 t.hd.n,.int .i64 t.hd.range,.string t.hd.word,.slice t.sp.ma t.hd.ms.length t.sp.mc,.slice t.sp.ba t.hd.bs.length t.sp.bc,.slice t.sp.ka t.kids.length t.sp.kc] 41 (0,0)):=by
   rw [hW3,Below.heap_alloc _ _ _ (by simp;omega),Below.heap_alloc _ _ _ (by simp)];exact heap_alloc_new w1 _
  have K3:W3.heap[w1.heap.size+1+1]?=some (.cells #[.int .i64 0] 3 (0,0)):=by
   have:=heap_alloc_new ((w1.alloc (.cells #[.int .i64 t.hd.kind,.int .i64 t.hd.n,.int .i64 t.hd.range,.string t.hd.word,.slice t.sp.ma t.hd.ms.length t.sp.mc,.slice t.sp.ba t.hd.bs.length t.sp.bc,.slice t.sp.ka t.kids.length t.sp.kc] 41)).alloc (.cells #[.int .i64 0,.int .i64 0] 43)) (.cells #[.int .i64 0] 3)
   rw [hW3];simpa using this
  have C3:=below_block b3 C1
  have R3:=below_block b3 R1
  have hB3:=HBV.out.below bV3
  have hin3:t.In W3:=ET.In.below b3 t hin.whole
  have HS:Hid (∀ W:World,Below W3.heap.size W3 W→Calls Tryz.prog 101 #[.pointer (some ⟨B,0,none⟩)] W fun e w4=>∃ Q:Nat,e=.returned (.slice (some ⟨Q,0,none⟩) n n)∧Hid (∀ W5:World,Below w4.heap.size w4 W5→Calls Tryz.prog 40 #[.slice (some ⟨Q,0,none⟩) n n,eval t,.int .i64 time,.func (.func 102) #[] #[.pointer (some ⟨w.heap.size,0,none⟩),.pointer (some ⟨w1.heap.size+1+1,0,none⟩)]] W5 fun e w6=>∃ (x:Int) (co:Option Addr) (M d:Nat),e=.returned (.tuple #[.slice co M d,.int .i64 x]) ∧
    ((x≠0∧askE b time t.ex=.error x)∨(x=0∧∃ nb cts,askE b time t.ex=.ok ⟨nb,cls cts⟩∧M=cts.length∧CsIn w6 co cts∧w6.heap[w1.heap.size+1+1]?=some (.cells #[.int .i64 (wrap64 (askK b time t.ex))] 3 (0,0))))∧w6.heap[w.heap.size+1]?=some (.cells #[.int .i64 0,.int .i64 0,.slice none 0 0,.int .i64 0] 48 (0,0))∧Below w.heap.size w w6∧((w6.cell? ⟨w1.heap.size,0,none⟩=some (.int .i64 t.hd.kind)∧w6.cell? ⟨w1.heap.size,1,none⟩=some (.int .i64 t.hd.n)∧w6.cell? ⟨w1.heap.size,2,none⟩=some (.int .i64 t.hd.range)∧w6.cell? ⟨w1.heap.size,3,none⟩=some (.string t.hd.word)∧w6.cell? ⟨w1.heap.size,4,none⟩=some (.slice t.sp.ma t.hd.ms.length t.sp.mc)∧w6.cell? ⟨w1.heap.size,5,none⟩=some (.slice t.sp.ba t.hd.bs.length t.sp.bc)∧w6.cell? ⟨w1.heap.size,6,none⟩=some (.slice t.sp.ka t.kids.length t.sp.kc))∧w6.cell? ⟨w.heap.size,0,none⟩=some (.pointer (some ⟨B,0,none⟩)))) ∧
    Below W3.heap.size W3 w4):=by
   intro W hW
   refine (bseries_any l lo B n cap ao b.hz W (hB3.below hW) hn8).mono ?_
   rintro e w4 ⟨Q,rfl,hsg,b4⟩
   have b34:=below_step b4 hW
   refine ⟨Q,rfl,?_,b34⟩
   intro W5 hW5
   have b35:=below_step hW5 b34
   refine (bover_base b hb h5 t time l lo B n cap w.heap.size (w1.heap.size+1+1) Q ao W5 (hB3.below b35) HL.out (below_block b35 C3) (below_block b35 K3) (hsg.below hW5) (ET.In.below b35 t hin3)).mono ?_
   rintro e w6 ⟨ho,hbel⟩
   have hw1s:=bel1.size
   have hR6:w6.heap[w.heap.size+1]?=some (.cells #[.int .i64 0,.int .i64 0,.slice none 0 0,.int .i64 0] 48 (0,0)):=by
    have h1:=lt_of_block R1
    rw [hbel.block _ (lt_of_block (below_block b35 R3)) (fun e=>by injection e with e;omega)]
    exact below_block b35 R3
   have hb6:Below w.heap.size w w6:=by
    have hb5:=below_step b35 bel3
    exact ⟨hbel.os.trans hb5.os,hbel.tape.trans hb5.tape,hbel.output.trans hb5.output,Nat.le_trans hb5.size hbel.size,fun k hk=>(hbel.block k (Nat.lt_of_lt_of_le hk hb5.size) (fun e=>by injection e with e;omega)).trans (hb5.block k hk)⟩
   have hS6:(w6.cell? ⟨w1.heap.size,0,none⟩=some (.int .i64 t.hd.kind)∧w6.cell? ⟨w1.heap.size,1,none⟩=some (.int .i64 t.hd.n)∧w6.cell? ⟨w1.heap.size,2,none⟩=some (.int .i64 t.hd.range)∧w6.cell? ⟨w1.heap.size,3,none⟩=some (.string t.hd.word)∧w6.cell? ⟨w1.heap.size,4,none⟩=some (.slice t.sp.ma t.hd.ms.length t.sp.mc)∧w6.cell? ⟨w1.heap.size,5,none⟩=some (.slice t.sp.ba t.hd.bs.length t.sp.bc)∧w6.cell? ⟨w1.heap.size,6,none⟩=some (.slice t.sp.ka t.kids.length t.sp.kc))∧w6.cell? ⟨w.heap.size,0,none⟩=some (.pointer (some ⟨B,0,none⟩)):=by
    have g1:w6.heap[w1.heap.size]?=_:=(hbel.block _ (lt_of_block (below_block b35 E3)) (fun e=>by injection e with e;omega)).trans (below_block b35 E3)
    have g2:w6.heap[w.heap.size]?=_:=(hbel.block _ (lt_of_block (below_block b35 C3)) (fun e=>by injection e with e;omega)).trans (below_block b35 C3)
    exact ⟨seven_cells g1,by simp [World.cell?,g2]⟩
   rcases ho with ⟨x,hx,ho,rfl⟩ | ⟨nb,cts,co,M,d,rfl,ho,hM,hC,hc2⟩
   ·exact ⟨x,none,0,0,rfl,.inl ⟨hx,ho⟩,hR6,hb6,hS6⟩
   ·exact ⟨0,co,M,d,rfl,.inr ⟨rfl,nb,cts,ho,hM,hC,hc2⟩,hR6,hb6,hS6⟩
  obtain ⟨e0,e1,e2,e3,e4,e5,e6⟩:=seven_cells E3
  have c3:W3.cell? ⟨w.heap.size,0,none⟩=some (.pointer (some ⟨B,0,none⟩)):=by simp [World.cell?,C3]
  have BD:Below W3.heap.size W3 W3.drew:=below_drewN (Below.refl _ _) 1
  have HE:Hid (∀ W:World,Below W3.heap.size W3 W→(W.cell? ⟨w1.heap.size,0,none⟩=some (.int .i64 t.hd.kind)∧W.cell? ⟨w1.heap.size,1,none⟩=some (.int .i64 t.hd.n)∧W.cell? ⟨w1.heap.size,2,none⟩=some (.int .i64 t.hd.range)∧W.cell? ⟨w1.heap.size,3,none⟩=some (.string t.hd.word)∧W.cell? ⟨w1.heap.size,4,none⟩=some (.slice t.sp.ma t.hd.ms.length t.sp.mc)∧W.cell? ⟨w1.heap.size,5,none⟩=some (.slice t.sp.ba t.hd.bs.length t.sp.bc)∧W.cell? ⟨w1.heap.size,6,none⟩=some (.slice t.sp.ka t.kids.length t.sp.kc))∧W.cell? ⟨w.heap.size,0,none⟩=some (.pointer (some ⟨B,0,none⟩))):=fun W hW=>⟨seven_cells (below_block hW E3),by have:=below_block hW C3;simp [World.cell?,this]⟩
  have HW3:=hide hW3
  unfold eval at HS ⊢
  clear HP hx hin hin3 hB3 E3 K3 C3 R3 C1 R1 bV3 b3 bel3 HBV hW3 hb h5
  go_upto_region 5 with fail
  rw [← HW3.out]
  go_cut [10,11] from 25 to 34 (fun v10 v11 wx=>∃ (x:Int) (co:Option Addr) (M d:Nat),v10=.slice co M d∧v11=.int .i64 x ∧
    ((x≠0∧askE b time t.ex=.error x)∨(x=0∧∃ nb cts,askE b time t.ex=.ok ⟨nb,cls cts⟩∧M=cts.length∧CsIn wx co cts∧wx.heap[w1.heap.size+1+1]?=some (.cells #[.int .i64 (wrap64 (askK b time t.ex))] 3 (0,0))))∧wx.heap[w.heap.size+1]?=some (.cells #[.int .i64 0,.int .i64 0,.slice none 0 0,.int .i64 0] 48 (0,0))∧Below w.heap.size w wx)
  case first =>
   go_region_held3 (fun w'=>(w'.cell? ⟨w1.heap.size,0,none⟩=some (.int .i64 t.hd.kind)∧w'.cell? ⟨w1.heap.size,1,none⟩=some (.int .i64 t.hd.n)∧w'.cell? ⟨w1.heap.size,2,none⟩=some (.int .i64 t.hd.range)∧w'.cell? ⟨w1.heap.size,3,none⟩=some (.string t.hd.word)∧w'.cell? ⟨w1.heap.size,4,none⟩=some (.slice t.sp.ma t.hd.ms.length t.sp.mc)∧w'.cell? ⟨w1.heap.size,5,none⟩=some (.slice t.sp.ba t.hd.bs.length t.sp.bc)∧w'.cell? ⟨w1.heap.size,6,none⟩=some (.slice t.sp.ka t.kids.length t.sp.kc))∧w'.cell? ⟨w.heap.size,0,none⟩=some (.pointer (some ⟨B,0,none⟩))) (first | exact HE.out _ (by with_reducible assumption) | assumption | go_keep)
    (first
     | (go_at_call 101;refine (HS.out _ BD).mono ?_;rintro e w4 ⟨Q,rfl,PO,b4⟩)
     | (go_at_call 40;refine (PO.out _ (Below.refl _ _)).mono ?_;rintro e w6 ⟨x,co,M,d,rfl,ho,hR,hbw,hS6⟩;have HO:=hide ho;clear ho))
   all_goals go_wp2
   all_goals go_meet
   all_goals exact ⟨x,co,M,d,rfl,rfl,HO.out,hR,hbw⟩
  case rest =>
   obtain ⟨x,co,M,d,rfl,rfl,ho,hR,hbw⟩:=hcut
   have HO:=hide ho
   have HR:=hide hR
   obtain ⟨r0,r1,r2,r3,f0,f1,f2,f3⟩:=four_cells hR
   clear HS HE e0 e1 e2 e3 e4 e5 e6 c3 BD HW3 ho
   by_cases h0:x=0
   ·subst h0
    have hok:∃ nb cts,askE b time t.ex=.ok ⟨nb,cls cts⟩∧M=cts.length∧CsIn wc co cts∧wc.heap[w1.heap.size+1+1]?=some (.cells #[.int .i64 (wrap64 (askK b time t.ex))] 3 (0,0)):=by
     rcases HO.out with ⟨h1,_⟩ | ⟨_,h1⟩
     ·exact absurd rfl h1
     ·exact h1
    obtain ⟨nb,cts,hE,hM,hC,hc2⟩:=hok
    have c2:wc.cell? ⟨w1.heap.size+1+1,0,none⟩=some (.int .i64 (wrap64 (askK b time t.ex))):=by simp [World.cell?,hc2]
    obtain ⟨K,hK⟩:∃ K,K=wrap64 (askK b time t.ex):=⟨_,rfl⟩
    rw [← hK] at c2
    have FIN:Hid (APost (askB b tx time) w (.returned (.agg #[.int .i64 0,.int .i64 0,.slice co M d,.int .i64 K])) (Set4 wc (w.heap.size+1) (.int .i64 0) (.int .i64 0) (.slice co M d) (.int .i64 K))):=by
     refine ⟨⟨⟨0,0,cls cts,K⟩,cts,co,d⟩,by rw [hM];rfl,?_,⟨rfl,csin_keep hC HR.out (by decide) (by decide) (set4_grown _ _ _ _ _ _)⟩,below_set4 hbw (by omega) _ _ _ _⟩
     rw [HA.out,anE,hE,← hK]
    clear HO HR hE hM hC hc2 hK hbw
    go_wp2
    exact bodyPost_ret (v:=.agg #[.int .i64 0,.int .i64 0,.slice co M d,.int .i64 K]) (by simp [results,Tryz.results60,go_sem,r0,r1,r2,r3]) rfl FIN.out
   ·have hno:askE b time t.ex=.error x:=by
     rcases HO.out with ⟨_,h1⟩ | ⟨h1,_⟩
     ·exact h1
     ·exact absurd h1 h0
    have hne:(x != 0)=true:=by simpa using h0
    have FIN:Hid (APost (askB b tx time) w (.returned (.agg #[.int .i64 x,.int .i64 0,.slice none 0 0,.int .i64 0])) (Set4 wc (w.heap.size+1) (.int .i64 x) (.int .i64 0) (.slice none 0 0) (.int .i64 0))):=by
     refine ⟨⟨⟨x,0,[],0⟩,[],none,0⟩,rfl,?_,⟨rfl,.inl rfl,fun c hc=>(by cases hc),.inl rfl,fun c hc=>(by cases hc)⟩,below_set4 hbw (by omega) _ _ _ _⟩
     rw [HA.out,anE,hno]
    clear HO HR hno hbw h0
    go_wp2
    exact bodyPost_ret (v:=.agg #[.int .i64 x,.int .i64 0,.slice none 0 0,.int .i64 0]) (by simp [results,Tryz.results60,go_sem,r0,r1,r2,r3]) rfl FIN.out
 ·have hf0:f.1≠0:=nz_prs _ f hf
  have HA:Hid (askB b tx time=⟨f.1,((tx.size-f.2:Nat):Int),[],0⟩):=by show _=_;rw [HASK.out,hf]
  obtain ⟨F,hF⟩:∃ F,F=f.1:=⟨_,rfl⟩
  obtain ⟨Pn,hPn⟩:∃ Pn:Int,Pn=((tx.size-f.2:Nat):Int):=⟨_,rfl⟩
  rw [← hF] at hf0 HA ⊢
  rw [← hPn] at HA ⊢
  obtain ⟨W3,hW3⟩:∃ W3,W3=(w1.alloc (.cells #[.int .i64 0,.int .i64 0,.int .i64 0,.string ⟨#[]⟩,.slice none 0 0,.slice none 0 0,.slice none 0 0] 41)).alloc (.cells #[.int .i64 F,.int .i64 Pn] 43):=⟨_,rfl⟩
  have b3:Below w1.heap.size w1 W3:=by rw [hW3];exact ((Below.refl _ _).alloc (Nat.le_refl _) _).alloc (by simp) _
  have F3:W3.heap[w1.heap.size+1]?=some (.cells #[.int .i64 F,.int .i64 Pn] 43 (0,0)):=by
   have:=heap_alloc_new (w1.alloc (.cells #[.int .i64 0,.int .i64 0,.int .i64 0,.string ⟨#[]⟩,.slice none 0 0,.slice none 0 0,.slice none 0 0] 41)) (.cells #[.int .i64 F,.int .i64 Pn] 43)
   rw [hW3];simpa using this
  have R3:=below_block b3 R1
  have bel3:Below w.heap.size w W3:=bel1.trans (b3.mono bel1.size)
  obtain ⟨r0,r1,r2,r3,f0,f1,f2,f3⟩:=four_cells R3
  obtain ⟨q0,q1,-,-⟩:=two_cells F3
  have FIN:Hid (APost (askB b tx time) w (.returned (.agg #[.int .i64 F,.int .i64 Pn,.slice none 0 0,.int .i64 0])) (Set4 W3 (w.heap.size+1) (.int .i64 F) (.int .i64 Pn) (.slice none 0 0) (.int .i64 0))):=by
   refine ⟨⟨⟨F,Pn,[],0⟩,[],none,0⟩,rfl,HA.out.symm,⟨rfl,.inl rfl,fun c hc=>(by cases hc),.inl rfl,fun c hc=>(by cases hc)⟩,below_set4 bel3 (by omega) _ _ _ _⟩
  have hne:(F != 0)=true:=by simpa using hf0
  have HW3:=hide hW3
  clear HP hf HA HASK hF hPn hf0 hW3 b3 F3 R3 bel3 R1 C1 HBV HL hb h5
  go_upto_region 2 with fail
  rw [← HW3.out]
  go_wp2
  exact bodyPost_ret (v:=.agg #[.int .i64 F,.int .i64 Pn,.slice none 0 0,.int .i64 0]) (by simp [results,Tryz.results60,go_sem,r0,r1,r2,r3]) rfl FIN.out
open Go.RowKit Go.GrainU
structure DT where
 d:Dn
 sa:Option Addr
 sc:Nat
def DT.v (x:DT):Value:=.agg #[.int .i64 x.d.kind,.int .i64 x.d.tier,.int .i64 x.d.till,.slice x.sa x.d.se.length x.sc,.int .i64 x.d.t,.int .i64 x.d.v,.string x.d.tx]
structure DIn (w:World) (x:DT):Prop where
 seg:Seg w x.sa (lcells x.d.se)
 fit:Fits x.d.se
 nil:x.sa=none→x.d.se.length=0∧x.sc=0
 txs:x.d.tx.size≤9223372036854775807
theorem DIn.below {w w':World} {x:DT} (h:DIn w x) (hb:Below w.heap.size w w'):DIn w' x:=⟨h.seg.below hb,h.fit,h.nil,h.txs⟩
theorem BIn.keepO {w w':World} {lo B n cap k:Nat} {ao:Option Addr} {hz:Int} {l:List ShT} {c:Array Value} {t:TypeId} {fr:Nat×Nat} (h:BIn w lo B ao n cap hz l) (hk:w.heap[k]?=some (.cells c t fr)) (ht:Other t) (ht2:t≠91) (hg:w.grownBy w' (some k)):BIn w' lo B ao n cap hz l:=by
 refine ⟨?_,h.row.keep hk ht hg,h.loB⟩
 rw [hg.block B (lt_of_block h.b) (fun e=>by
  injection e with e
  subst e
  have h1:=h.b
  rw [hk] at h1
  injection h1 with h1
  injection h1 with _ h2 _
  exact ht2 h2)]
 exact h.b
theorem Fr.new {lo k : Nat} {w w1 w2 : World} (h : Fr lo w w1) (hg : w1.grownBy w2 (some k)) (hk : w.heap.size ≤ k) (hlo : lo ≤ w.heap.size) : Fr lo w w2 :=
  ⟨hg.os.trans h.os, hg.tape.trans h.tape, hg.output.trans h.output, Nat.le_trans h.size hg.size,
   fun i hi => (hg.block i (by have := h.size; omega) (fun e => by injection e with e; omega)).trans (h.low i hi),
   fun i c t fr hi h1 h2 => (hg.block i (by have := lt_of_block hi; have := h.size; omega) (fun e => by injection e with e; have := lt_of_block hi; omega)).trans (h.typ i c t fr hi h1 h2)⟩
def OPostB (r:Bs×An) (lo B:Nat) (w:World) (e:Ending) (w':World):Prop :=
 ∃ (y:AT) (ao:Option Addr) (n cap:Nat) (l:List ShT),e=.returned (.agg #[.int .i64 y.a.err,.int .i64 y.a.pos,.slice y.co y.cts.length y.cap,.int .i64 y.a.cost])∧y.a=r.2∧AnIn w' y∧BIn w' lo B ao n cap r.1.hz l∧Lies l r.1.l∧Fr lo w w'
set_option maxRecDepth 100000 in
set_option maxHeartbeats 4000000 in
theorem bdo_any (b:Bs) (hb:BInv b) (h5:FewB 500 b) (x:DT) (l:List ShT) (lo B n cap:Nat) (ao:Option Addr) (w:World) (hB:BIn w lo B ao n cap b.hz l) (hL:Lies l b.l) (hx:DIn w x) (hv:ErrV w) :
  Calls Tryz.prog 35 #[.pointer (some ⟨B,0,none⟩),x.v] w (OPostB (doB b x.d) lo B w):=by
 obtain ⟨⟨kd,tier,tl,se,t,v,tx⟩,sa,sc⟩:=x
 obtain ⟨seg,fit,nil,txs⟩:=hx
 simp only at seg fit nil txs
 obtain ⟨m,hm⟩:∃ m,m=se.length:=⟨_,rfl⟩
 obtain ⟨V,hV⟩:∃ V,V=(w.alloc (.cells #[.int .i64 kd,.int .i64 tier,.int .i64 tl,.slice sa m sc,.int .i64 t,.int .i64 v,.string tx] 36)).alloc (.cells #[.int .i64 0,.int .i64 0,.slice none 0 0,.int .i64 0] 48):=⟨_,rfl⟩
 have bel:Below w.heap.size w V:=by rw [hV];exact ((Below.refl _ _).alloc (Nat.le_refl _) _).alloc (by simp) _
 have D0:V.heap[w.heap.size]?=some (.cells #[.int .i64 kd,.int .i64 tier,.int .i64 tl,.slice sa m sc,.int .i64 t,.int .i64 v,.string tx] 36 (0,0)):=by rw [hV,Below.heap_alloc _ _ _ (by simp)];exact heap_alloc_new w _
 have R0:V.heap[w.heap.size+1]?=some (.cells #[.int .i64 0,.int .i64 0,.slice none 0 0,.int .i64 0] 48 (0,0)):=by
  have:=heap_alloc_new (w.alloc (.cells #[.int .i64 kd,.int .i64 tier,.int .i64 tl,.slice sa m sc,.int .i64 t,.int .i64 v,.string tx] 36)) (.cells #[.int .i64 0,.int .i64 0,.slice none 0 0,.int .i64 0] 48)
  rw [hV];simpa using this
 have hlB:lo≤w.heap.size:=by have:=hB.loB;have:=lt_of_block hB.b;omega
 have BV:=hB.below bel
 have segV:=seg.below bel
 have nil':sa=none→m=0∧sc=0:=by rw [hm];exact nil
 have HE:Hid (∀ (r:Bs×Int) (e:Ending) (w1:World),DPost r lo B V e w1→∃ E:Int,e=.returned (.int .i64 E)∧w1.heap[w.heap.size+1]?=some (.cells #[.int .i64 0,.int .i64 0,.slice none 0 0,.int .i64 0] 48 (0,0)) ∧
   Hid (doB b ⟨kd,tier,tl,se,t,v,tx⟩=(r.1,⟨r.2,0,[],0⟩)→OPostB (doB b ⟨kd,tier,tl,se,t,v,tx⟩) lo B w (.returned (.agg #[.int .i64 E,.int .i64 0,.slice none 0 0,.int .i64 0])) (Set4 w1 (w.heap.size+1) (.int .i64 E) (.int .i64 0) (.slice none 0 0) (.int .i64 0)))):=by
  rintro r e w1 ⟨ao',n',cap',l',rfl,h1,h2,h3⟩
  have hR:=(h3.typ _ _ _ _ R0 (by decide) (by decide)).trans R0
  refine ⟨r.2,rfl,hR,fun hd=>?_⟩
  rw [hd]
  have hg:=set4_grown w1 (w.heap.size+1) (.int .i64 r.2) (.int .i64 0) (.slice none 0 0) (.int .i64 0)
  exact ⟨⟨⟨r.2,0,[],0⟩,[],none,0⟩,ao',n',cap',l',rfl,rfl,⟨rfl,.inl rfl,fun c hc=>(by cases hc),.inl rfl,fun c hc=>(by cases hc)⟩,h1.keepO hR ⟨by decide,by decide,by decide,by decide⟩ (by decide) hg,h2,((Fr.of bel hlB).trans h3).new hg (by omega) hlB⟩
 have P1:=hide (btake_any b hb se t v sa m sc l lo B n cap ao V BV hL segV hm fit nil')
 have P2:=hide (broll_any b hb tl l lo B n cap ao V BV hL)
 have P3:=hide (bforg_any b hb tier tl l lo B n cap ao V BV hL)
 have P4:=hide (bask_any b hb h5 tx tl l lo B n cap ao V BV hL txs (hv.below bel))
 have HD:Hid (doB b ⟨kd,tier,tl,se,t,v,tx⟩=if kd=1 then ((takeB b se t v).1,⟨(takeB b se t v).2,0,[],0⟩)
  else if kd=2 then ((rollB b tl).1,⟨(rollB b tl).2,0,[],0⟩)
  else if kd=3 then ((forgB b tier tl).1,⟨(forgB b tier tl).2,0,[],0⟩)
  else if kd=4 then (b,askB b tx tl)
  else (b,⟨1,0,[],0⟩)):=rfl
 have HV:=hide hV
 have HBV:=hide BV
 have HB0:=hide hB
 have HL:=hide hL
 have HR0:=hide R0
 obtain ⟨d0,d1,d2,d3,d4,d5,d6⟩:=seven_cells D0
 obtain ⟨r0,r1,r2,r3,f0,f1,f2,f3⟩:=four_cells R0
 unfold DT.v
 simp only
 rw [← hm]
 clear hV hm BV hB hL hb h5 seg segV nil nil' fit txs hv D0 R0
 by_cases k1:kd=1
 ·have HD1:Hid (doB b ⟨kd,tier,tl,se,t,v,tx⟩=((takeB b se t v).1,⟨(takeB b se t v).2,0,[],0⟩)):=by show _=_;rw [HD.out,if_pos k1]
  subst k1
  clear HD P2 P3 P4
  go_enter Tryz.func35,Tryz.ntmps35
  go_wp2_with fail
  rw [← HV.out]
  refine P1.out.mono ?_
  intro e w1 hh
  obtain ⟨E,rfl,hR,FIN0⟩:=HE.out _ e w1 hh
  have FIN:=hide (FIN0.out HD1.out)
  obtain ⟨r0,r1,r2,r3,f0,f1,f2,f3⟩:=four_cells hR
  clear hh P1 HE FIN0 hR HD1
  go_wp2
  exact bodyPost_ret (v:=.agg #[.int .i64 E,.int .i64 0,.slice none 0 0,.int .i64 0]) (by simp [results,Tryz.results35,go_sem,r0,r1,r2,r3]) rfl FIN.out
 ·have n1:(kd == 1)=false:=by simpa using k1
  by_cases k2:kd=2
  ·have HD1:Hid (doB b ⟨kd,tier,tl,se,t,v,tx⟩=((rollB b tl).1,⟨(rollB b tl).2,0,[],0⟩)):=by show _=_;rw [HD.out,if_neg k1,if_pos k2]
   subst k2
   clear HD P1 P3 P4 k1
   go_enter Tryz.func35,Tryz.ntmps35
   go_wp2_with fail
   rw [← HV.out]
   refine P2.out.mono ?_
   intro e w1 hh
   obtain ⟨E,rfl,hR,FIN0⟩:=HE.out _ e w1 hh
   have FIN:=hide (FIN0.out HD1.out)
   obtain ⟨r0,r1,r2,r3,f0,f1,f2,f3⟩:=four_cells hR
   clear hh P2 HE FIN0 hR HD1
   go_wp2
   exact bodyPost_ret (v:=.agg #[.int .i64 E,.int .i64 0,.slice none 0 0,.int .i64 0]) (by simp [results,Tryz.results35,go_sem,r0,r1,r2,r3]) rfl FIN.out
  ·have n2:(kd == 2)=false:=by simpa using k2
   by_cases k3:kd=3
   ·have HD1:Hid (doB b ⟨kd,tier,tl,se,t,v,tx⟩=((forgB b tier tl).1,⟨(forgB b tier tl).2,0,[],0⟩)):=by show _=_;rw [HD.out,if_neg k1,if_neg k2,if_pos k3]
    subst k3
    clear HD P1 P2 P4 k1 k2
    go_enter Tryz.func35,Tryz.ntmps35
    go_wp2_with fail
    rw [← HV.out]
    refine P3.out.mono ?_
    intro e w1 hh
    obtain ⟨E,rfl,hR,FIN0⟩:=HE.out _ e w1 hh
    have FIN:=hide (FIN0.out HD1.out)
    obtain ⟨r0,r1,r2,r3,f0,f1,f2,f3⟩:=four_cells hR
    clear hh P3 HE FIN0 hR HD1
    go_wp2
    exact bodyPost_ret (v:=.agg #[.int .i64 E,.int .i64 0,.slice none 0 0,.int .i64 0]) (by simp [results,Tryz.results35,go_sem,r0,r1,r2,r3]) rfl FIN.out
   ·have n3:(kd == 3)=false:=by simpa using k3
    by_cases k4:kd=4
    ·have HD1:Hid (doB b ⟨kd,tier,tl,se,t,v,tx⟩=(b,askB b tx tl)):=by show _=_;rw [HD.out,if_neg k1,if_neg k2,if_neg k3,if_pos k4]
     subst k4
     clear HD P1 P2 P3 k1 k2 k3 HE
     go_enter Tryz.func35,Tryz.ntmps35
     go_wp2_with fail
     rw [← HV.out]
     refine P4.out.mono ?_
     rintro e w1 ⟨y,rfl,hy,hin,b1⟩
     have hR:=below_block b1 HR0.out
     have hg:=set4_grown w1 (w.heap.size+1) (.int .i64 y.a.err) (.int .i64 y.a.pos) (.slice y.co y.cts.length y.cap) (.int .i64 y.a.cost)
     have FIN:Hid (OPostB (doB b ⟨4,tier,tl,se,t,v,tx⟩) lo B w (.returned (.agg #[.int .i64 y.a.err,.int .i64 y.a.pos,.slice y.co y.cts.length y.cap,.int .i64 y.a.cost])) (Set4 w1 (w.heap.size+1) (.int .i64 y.a.err) (.int .i64 y.a.pos) (.slice y.co y.cts.length y.cap) (.int .i64 y.a.cost))):=by
      show OPostB _ _ _ _ _ _
      rw [HD1.out]
      exact ⟨y,ao,n,cap,l,rfl,hy,⟨hin.cs,csin_keep hin.inn hR (by decide) (by decide) hg⟩,(HBV.out.below b1).keepO hR ⟨by decide,by decide,by decide,by decide⟩ (by decide) hg,HL.out,((Fr.of bel hlB).trans (Fr.of b1 (Nat.le_trans hlB bel.size))).new hg (by omega) hlB⟩
     unfold AT.v
     obtain ⟨r0,r1,r2,r3,f0,f1,f2,f3⟩:=four_cells hR
     generalize y.a.err=y0 at FIN ⊢
     generalize y.a.pos=y1 at FIN ⊢
     generalize y.cts.length=y2 at FIN ⊢
     generalize y.a.cost=y3 at FIN ⊢
     clear P4 HD1 hR hg hy hin
     go_wp2
     exact bodyPost_ret (v:=.agg #[.int .i64 y0,.int .i64 y1,.slice y.co y2 y.cap,.int .i64 y3]) (by simp [results,Tryz.results35,go_sem,r0,r1,r2,r3]) rfl FIN.out
    ·have n4:(kd == 4)=false:=by simpa using k4
     have HD1:Hid (doB b ⟨kd,tier,tl,se,t,v,tx⟩=(b,⟨1,0,[],0⟩)):=by show _=_;rw [HD.out,if_neg k1,if_neg k2,if_neg k3,if_neg k4]
     have FIN:Hid (OPostB (doB b ⟨kd,tier,tl,se,t,v,tx⟩) lo B w (.returned (.agg #[.int .i64 1,.int .i64 0,.slice none 0 0,.int .i64 0])) ((w.alloc (.cells #[.int .i64 kd,.int .i64 tier,.int .i64 tl,.slice sa m sc,.int .i64 t,.int .i64 v,.string tx] 36)).alloc (.cells #[.int .i64 1,.int .i64 0,.slice none 0 0,.int .i64 0] 48))):=by
      show OPostB _ _ _ _ _ _
      rw [HD1.out]
      have bz:Below w.heap.size w ((w.alloc (.cells #[.int .i64 kd,.int .i64 tier,.int .i64 tl,.slice sa m sc,.int .i64 t,.int .i64 v,.string tx] 36)).alloc (.cells #[.int .i64 1,.int .i64 0,.slice none 0 0,.int .i64 0] 48)):=((Below.refl _ _).alloc (Nat.le_refl _) _).alloc (by simp) _
      exact ⟨⟨⟨1,0,[],0⟩,[],none,0⟩,ao,n,cap,l,rfl,rfl,⟨rfl,.inl rfl,fun c hc=>(by cases hc),.inl rfl,fun c hc=>(by cases hc)⟩,HB0.out.below bz,HL.out,Fr.of bz hlB⟩
     clear HD HD1 P1 P2 P3 P4 k1 k2 k3 k4 HE HBV HL HB0 d0 d1 d2 d3 d4 d5 d6 r0 r1 r2 r3 f0 f1 f2 f3
     go_enter Tryz.func35,Tryz.ntmps35
     go_wp2
     exact bodyPost_ret (v:=.agg #[.int .i64 1,.int .i64 0,.slice none 0 0,.int .i64 0]) (by simp [results,Tryz.results35,go_sem]) rfl FIN.out
open Go.RowKit Go.GrainU
def DT.cells (x:DT):List Value:=[.int .i64 x.d.kind,.int .i64 x.d.tier,.int .i64 x.d.till,.slice x.sa x.d.se.length x.sc,.int .i64 x.d.t,.int .i64 x.d.v,.string x.d.tx]
def dcells:List DT→List Value
 | []=>[]
 | x::r=>x.cells++dcells r
def dtt (l:List DT) (k:Nat):DT:=l.getD k ⟨⟨0,0,0,[],0,0,⟨#[]⟩⟩,none,0⟩
theorem dcells_length (l:List DT):(dcells l).length=l.length*7:=by
 induction l with
 | nil=>rfl
 | cons x r ih=>simp only [dcells,List.length_append,ih,List.length_cons];show 7+_=_;omega
theorem dtt_get {l:List DT} {k:Nat} (h:k<l.length):dtt l k=l[k]:=by simp [dtt,List.getD,List.getElem?_eq_getElem h]
theorem dtt_mem {l:List DT} {k:Nat} (h:k<l.length):dtt l k∈l:=by rw [dtt_get h];exact List.getElem_mem h
theorem dcells_at:∀ (l:List DT) (k j:Nat),k<l.length→j<7→(dcells l)[k*7+j]?=(dtt l k).cells[j]?
 | [],k,j,h,_=>by simp at h
 | x::r,0,j,_,hj=>by
  show (x.cells++dcells r)[0*7+j]?=x.cells[j]?
  rw [Nat.zero_mul,Nat.zero_add,List.getElem?_append_left (by show j<7;exact hj)]
 | x::r,k+1,j,h,hj=>by
  have ih:=dcells_at r k j (by simpa using h) hj
  show (x.cells++dcells r)[(k+1)*7+j]?=_
  rw [List.getElem?_append_right (by show 7≤_;omega),show (k+1)*7+j-x.cells.length=k*7+j from by show (k+1)*7+j-7=_;omega,ih]
  simp [dtt]
theorem seg_do {w:World} {ao:Option Addr} {l:List DT} {k:Nat} (h:Seg w ao (dcells l)) (hk:k<l.length) :
  ∃ b off,ao=some ⟨b,off,none⟩∧b<w.heap.size∧∀ j,j<l.length→∀ i,i<7→w.cell? ⟨b,off+j*7+i,none⟩=(dtt l j).cells[i]?:=by
 have hs:=dcells_length l
 rcases h with h | ⟨b,off,rfl,h⟩
 ·rw [h] at hs;simp at hs;omega
 ·have hc:∀ j,j<l.length→∀ i,i<7→w.cell? ⟨b,off+j*7+i,none⟩=(dtt l j).cells[i]?:=fun j hj i hi=>by
   rw [← dcells_at l j i hj hi,Nat.add_assoc];exact h (j*7+i) (by omega)
  exact ⟨b,off,rfl,World.block_lt_of_cell? w ⟨b,off+k*7+0,none⟩ (u:=.int .i64 (dtt l k).d.kind) (hc k hk 0 (by omega)),hc⟩
def AT.cells (x:AT):List Value:=[.int .i64 x.a.err,.int .i64 x.a.pos,.slice x.co x.cts.length x.cap,.int .i64 x.a.cost]
def acells4:List AT→List Value
 | []=>[]
 | x::r=>x.cells++acells4 r
theorem acells4_length (l:List AT):(acells4 l).length=l.length*4:=by
 induction l with
 | nil=>rfl
 | cons x r ih=>simp only [acells4,List.length_append,ih,List.length_cons];show 4+_=_;omega
theorem acells4_append (a b:List AT):acells4 (a++b)=acells4 a++acells4 b:=by
 induction a with
 | nil=>rfl
 | cons x r ih=>simp only [List.cons_append,acells4,ih,List.append_assoc]
structure OutS (w:World) (lo:Nat) (v:Value) (n:Nat) (l:List AT):Prop where
 own:w.ownsRow lo 48 4 v n (acells4 l)
 ans:∀ a∈l,AnIn w a
theorem OutS.len {w:World} {lo n:Nat} {v:Value} {l:List AT} (h:OutS w lo v n l):n=l.length:=by
 have:=h.own.1;rw [acells4_length] at this;omega
theorem AnIn.below {w w':World} {a:AT} (h:AnIn w a) (hb:Below w.heap.size w w'):AnIn w' a:=⟨h.cs,h.inn.below hb⟩
theorem OutS.below {w w':World} {lo n:Nat} {v:Value} {l:List AT} (h:OutS w lo v n l) (hb:Below w.heap.size w w'):OutS w' lo v n l:=⟨own_below h.own hb,fun a ha=>(h.ans a ha).below hb⟩
theorem csin_fr {w w':World} {lo:Nat} {co:Option Addr} {l:List CT} (h:CsIn w co l) (hf:Fr lo w w'):CsIn w' co l:=by
 have sg:∀ {T:Nat} {ao:Option Addr} {xs:List Value},T≠59→T≠91→Seg w ao xs→(xs=[]∨Typ w T ao)→Seg w' ao xs∧(xs=[]∨Typ w' T ao):=fun {T ao xs} h1 h2 hs hty=>by
  rcases hty with h0 | ⟨b,off,arr,f,e,hb⟩
  ·exact ⟨.inl h0,.inl h0⟩
  ·have hs2:=hf.typ b _ _ _ hb h1 h2
   refine ⟨?_,.inr ⟨b,off,arr,f,e,hs2.trans hb⟩⟩
   rcases hs with h0 | ⟨b',off',e',hc⟩
   ·exact .inl h0
   ·rw [e] at e'
    injection e' with e'
    injection e' with e1 e2 _
    subst e1
    exact .inr ⟨b,off',by rw [e,e2],fun j hj=>by rw [cell_of_block hs2];exact hc j hj⟩
 exact ⟨(sg (by decide) (by decide) h.seg h.ty).1,fun x hx=>(sg (by decide) (by decide) (h.ser x hx) (h.tl x hx)).1,(sg (by decide) (by decide) h.seg h.ty).2,fun x hx=>(sg (by decide) (by decide) (h.ser x hx) (h.tl x hx)).2⟩
theorem own_fr {w w':World} {lo base e size n:Nat} {v:Value} {xs:List Value} (h:w.ownsRow base e size v n xs) (hf:Fr lo w w') (h1:e≠59) (h2:e≠91):w'.ownsRow base e size v n xs:=by
 refine ⟨h.1,?_⟩
 rcases h.2 with h0 | ⟨g,cap,cur,hv,hb,hh,rest⟩
 ·exact .inl h0
 ·exact .inr ⟨g,cap,cur,hv,hb,(hf.typ g _ _ _ hh h1 h2).trans hh,rest⟩
theorem OutS.fr {w w':World} {lo lo' n:Nat} {v:Value} {l:List AT} (h:OutS w lo v n l) (hf:Fr lo' w w'):OutS w' lo v n l :=
 ⟨own_fr h.own hf (by decide) (by decide),fun a ha=>⟨(h.ans a ha).cs,csin_fr (h.ans a ha).inn hf⟩⟩
theorem own_answer {w:World} {lo n:Nat} {v:Value} {xs:List Value} (h:w.ownsRow lo 48 4 v n xs):∀ k,v.ownBlock=some k→∃ c,w.heap[k]?=some (.cells c 48 (0,0)):=fun k e=>by
 rcases h.2 with ⟨h2,_⟩ | ⟨g,c,cur,hv,_,hh,_⟩
 ·rw [h2] at e;simp [Value.ownBlock] at e
 ·rw [hv] at e
  simp [Value.ownBlock] at e
  subst e
  exact ⟨cur,hh⟩
theorem anin_grown {w w':World} {lo n:Nat} {v:Value} {xs:List Value} {a:AT} (h:AnIn w a) (ho:w.ownsRow lo 48 4 v n xs) (gr:w.grownBy w' v.ownBlock):AnIn w' a:=by
 refine ⟨h.cs,?_⟩
 cases hv:v.ownBlock with
 | none =>
  rw [hv] at gr
  exact h.inn.below ⟨gr.os,gr.tape,gr.output,gr.size,fun k hk=>gr.block k hk (fun e=>by cases e)⟩
 | some g =>
  rw [hv] at gr
  obtain ⟨c,hc⟩:=own_answer ho g hv
  exact csin_keep h.inn hc (by decide) (by decide) gr
theorem bin_grown {w w':World} {lo B n' cap n:Nat} {ao:Option Addr} {hz:Int} {l:List ShT} {v:Value} {xs:List Value} {lo2:Nat} (h:BIn w lo B ao n' cap hz l) (ho:w.ownsRow lo2 48 4 v n xs) (gr:w.grownBy w' v.ownBlock):BIn w' lo B ao n' cap hz l:=by
 cases hv:v.ownBlock with
 | none =>
  rw [hv] at gr
  exact h.below ⟨gr.os,gr.tape,gr.output,gr.size,fun k hk=>gr.block k hk (fun e=>by cases e)⟩
 | some g =>
  rw [hv] at gr
  obtain ⟨c,hc⟩:=own_answer ho g hv
  exact h.keepO hc ⟨by decide,by decide,by decide,by decide⟩ (by decide) gr
theorem blk_grown {w w':World} {lo n k:Nat} {v:Value} {xs:List Value} {c:Array Value} {t:TypeId} {fr:Nat×Nat} (ho:w.ownsRow lo 48 4 v n xs) (gr:w.grownBy w' v.ownBlock) (hk:w.heap[k]?=some (.cells c t fr)) (ht:t≠48):w'.heap[k]?=some (.cells c t fr):=by
 rw [gr.block k (lt_of_block hk) (fun e=>own_far ho hk ht e.symm)];exact hk
theorem OutS.push {w w':World} {lo N d g' cp':Nat} {co:Option Addr} {l:List AT} {y:AT} (h:OutS w lo (.slice co N d) N l) (hy:AnIn w y) (own:w'.ownsRow lo 48 4 (.slice (some ⟨g',0,none⟩) (N+1) cp') (N+1) (acells4 l++y.cells)) (gr:w.grownBy w' (Value.slice co N d).ownBlock):OutS w' lo (.slice (some ⟨g',0,none⟩) (N+1) cp') (N+1) (l++[y]):=by
 refine ⟨by rw [acells4_append];simpa [acells4] using own,fun x hx=>?_⟩
 rcases List.mem_append.1 hx with e | e
 ·exact anin_grown (h.ans x e) h.own gr
 ·simp at e;rw [e];exact anin_grown hy h.own gr
def dns (l:List DT):List Dn:=l.map fun x=>x.d
def PlPost (l:List DT) (w:World) (e:Ending) (w':World):Prop :=
 (120<l.length∧e=.returned (.tuple #[.agg #[.slice none 0 0,.int .i64 0],.slice none 0 0,.int .i64 5])∧Below w.heap.size w w') ∨
 (l.length≤120∧∃ (ro oo:Option Addr) (rn rc d:Nat) (hz:Int) (sl:List ShT) (ys:List AT),e=.returned (.tuple #[.agg #[.slice ro rn rc,.int .i64 hz],.slice oo l.length d,.int .i64 0])∧RowS w' w.heap.size (.slice ro rn rc) rn sl∧Lies sl (playB b0 (dns l)).1.l∧hz=(playB b0 (dns l)).1.hz∧OutS w' w.heap.size (.slice oo l.length d) l.length ys∧ys.map (fun y=>y.a)=(playB b0 (dns l)).2∧Below w.heap.size w w')
theorem dns_take {l:List DT} {k:Nat} (h:k<l.length):dns (l.take (k+1))=dns (l.take k)++[(dtt l k).d]:=by
 unfold dns
 rw [List.take_add_one,List.getElem?_eq_getElem h,dtt_get h,List.map_append];rfl
theorem Tryz.infoAnswer:(Tryz.prog.info? 48).map (fun i=>(i.zero,i.size,i.bytes))=some (some (.agg #[.int .i64 0,.int .i64 0,.slice none 0 0,.int .i64 0]),4,48):=by kernel_rfl
set_option maxRecDepth 100000 in
set_option maxHeartbeats 4000000 in
theorem play_any (l:List DT) (ao:Option Addr) (n cap:Nat) (w:World) (hs:Seg w ao (dcells l)) (hd:∀ x∈l,DIn w x) (hn:n=l.length) (hv:ErrV w) :
  Calls Tryz.prog 14 #[.slice ao n cap] w (PlPost l w):=by
 obtain ⟨i0,hi,hz0,hz1,hz2⟩:=sinfo_parts Tryz.infoAnswer
 by_cases h120:120<n
 ·have FIN:Hid (PlPost l w (.returned (.tuple #[.agg #[.slice none 0 0,.int .i64 0],.slice none 0 0,.int .i64 5])) (w.alloc (.cells #[.slice none 0 0,.int .i64 0] 26))):=.inl ⟨by omega,rfl,(Below.refl _ _).alloc (Nat.le_refl _) _⟩
  have h1:(120:Int)<(n:Int):=by omega
  clear hn hs hd hv
  go_enter Tryz.func14,Tryz.ntmps14
  go_wp2
  exact bodyPost_ret (v:=.tuple #[.agg #[.slice none 0 0,.int .i64 0],.slice none 0 0,.int .i64 5]) (by simp [results,Tryz.results14,go_sem]) rfl FIN.out
 ·have h1:¬ ((120:Int)<(n:Int)):=by omega
  have hn120:n≤120:=by omega
  have HN:=hide hn
  have HS:=hide hs
  have HDn:=hide hd
  have HV:=hide hv
  clear hn hs hd hv h120
  go_enter Tryz.func14,Tryz.ntmps14
  go_wp2_with (at_make;refine wpList_make_own _ rfl _ _ 27 rfl w.heap.size 48 i0 (.agg #[.int .i64 0,.int .i64 0,.slice none 0 0,.int .i64 0]) 4 Tryz.underlying27 hi hz0 hz1 .i64 .i64 _ n rfl rfl rfl (by rw [hz2];omega) (by unfold maxLen;omega) (by simp;omega) ?_)
  intro w4 own4 gr4
  have b2:Below w.heap.size w ((w.alloc (.cells #[.slice none 0 0,.int .i64 0] 26)).alloc (.cells #[.slice none 0 0,.int .i64 0] 91)):=((Below.refl _ _).alloc (Nat.le_refl _) _).alloc (by simp) _
  have b4:Below w.heap.size w w4:=b2.grown gr4 (by simp;omega) (fun k hk=>by cases hk)
  have X4:w4.heap[w.heap.size]?=some (.cells #[.slice none 0 0,.int .i64 0] 26 (0,0)):=by
   rw [gr4.block _ (by simp;omega) (fun e=>by cases e),Below.heap_alloc _ _ _ (by simp)];exact heap_alloc_new w _
  have B4:w4.heap[w.heap.size+1]?=some (.cells #[.slice none 0 0,.int .i64 0] 91 (0,0)):=by
   rw [gr4.block _ (by simp) (fun e=>by cases e)]
   have:=heap_alloc_new (w.alloc (.cells #[.slice none 0 0,.int .i64 0] 26)) (.cells #[.slice none 0 0,.int .i64 0] 91)
   simpa using this
  have bin4:BIn w4 w.heap.size (w.heap.size+1) none 0 0 b0.hz []:=⟨B4,RowS.nil _ _,by omega⟩
  have out4:OutS w4 w.heap.size (.slice (some ⟨w.heap.size+1+1,0,none⟩) 0 n) 0 []:=⟨by simpa [acells4] using own4,fun a ha=>by cases ha⟩
  clear own4 gr4 b2 B4
  go_wp2
  go_loopw [6,18] (fun out i wr=>∃ (k d:Nat) (oo ro:Option Addr) (rn rc:Nat) (sl:List ShT) (ys:List AT),k≤n∧i=.int .i64 k∧out=.slice oo k d∧OutS wr w.heap.size (.slice oo k d) k ys∧BIn wr w.heap.size (w.heap.size+1) ro rn rc (playB b0 (dns (l.take k))).1.hz sl∧Hid (Lies sl (playB b0 (dns (l.take k))).1.l)∧Hid (ys.map (fun y=>y.a)=(playB b0 (dns (l.take k))).2)∧wr.heap[w.heap.size]?=some (.cells #[.slice none 0 0,.int .i64 0] 26 (0,0))∧Below w.heap.size w wr) (fun _ i _=>n-(intOf i).toNat)
  case atStart=>exact ⟨0,n,_,none,0,0,[],[],Nat.zero_le _,rfl,rfl,out4,bin4,rfl,rfl,X4,b4⟩
  case round =>
   obtain ⟨k,d,oo,ro,rn,rc,sl,ys,hk,rfl,rfl,hout,hbin,HLi,HYs,hX,bel⟩:=hrel
   clear out4 bin4 b4 X4
   have hsz:=bel.size
   by_cases hlt:k<n
   ·have hkl:k<l.length:=by rw [← HN.out];exact hlt
    obtain ⟨bb,off,rfl,hbb,hcell⟩:=seg_do HS.out hkl
    obtain ⟨x,hx⟩:∃ x,x=dtt l k:=⟨_,rfl⟩
    have cc:∀ i,i<7→wr.cell? ⟨bb,off+k*7+i,none⟩=x.cells[i]?:=fun i hi=>by rw [hx];exact (bel.cell (p:=⟨bb,_,none⟩) hbb).trans (hcell k hkl i hi)
    have q0:wr.cell? ⟨bb,off+k*7,none⟩=some (.int .i64 x.d.kind):=cc 0 (by omega)
    have q1:wr.cell? ⟨bb,off+k*7+1,none⟩=some (.int .i64 x.d.tier):=cc 1 (by omega)
    have q2:wr.cell? ⟨bb,off+k*7+2,none⟩=some (.int .i64 x.d.till):=cc 2 (by omega)
    have q3:wr.cell? ⟨bb,off+k*7+3,none⟩=some (.slice x.sa x.d.se.length x.sc):=cc 3 (by omega)
    have q4:wr.cell? ⟨bb,off+k*7+4,none⟩=some (.int .i64 x.d.t):=cc 4 (by omega)
    have q5:wr.cell? ⟨bb,off+k*7+5,none⟩=some (.int .i64 x.d.v):=cc 5 (by omega)
    have q6:wr.cell? ⟨bb,off+k*7+6,none⟩=some (.string x.d.tx):=cc 6 (by omega)
    obtain ⟨V,hV⟩:∃ V,V=wr.alloc (.cells #[.int .i64 x.d.kind,.int .i64 x.d.tier,.int .i64 x.d.till,.slice x.sa x.d.se.length x.sc,.int .i64 x.d.t,.int .i64 x.d.v,.string x.d.tx] 36):=⟨_,rfl⟩
    have bV:Below wr.heap.size wr V:=by rw [hV];exact (Below.refl _ _).alloc (Nat.le_refl _) _
    have belV:Below w.heap.size w V:=bel.trans (bV.mono hsz)
    obtain ⟨b,hb⟩:∃ b,b=(playB b0 (dns (l.take k))).1:=⟨_,rfl⟩
    have hinv:BInv b:=by rw [hb];exact playB_inv _ b0_inv
    have hfew:FewB 500 b:=by
     rw [hb]
     refine (playB_few (m:=0) (dns (l.take k)) (fun k hk=>by simp [b0] at hk)).mono ?_
     have:(dns (l.take k)).length≤n:=by simp [dns];omega
     omega
    have HNx:Hid (playB b0 (dns (l.take (k+1)))=((doB b x.d).1,(playB b0 (dns (l.take k))).2++[(doB b x.d).2])):=by
     show _=_
     rw [dns_take hkl,playB_snoc,← hb,hx]
    rw [← hb] at hbin HLi
    have P:=hide (bdo_any b hinv hfew x sl w.heap.size (w.heap.size+1) rn rc ro V (hbin.below bV) HLi.out ((HDn.out x (by rw [hx];exact dtt_mem hkl)).below belV) (HV.out.below belV))
    have outV:=hout.below bV
    have XV:=below_block bV hX
    have HV1:=hide hV
    unfold DT.v at P
    obtain ⟨m,hm⟩:∃ m,m=x.d.se.length:=⟨_,rfl⟩
    rw [← hm] at P HV1 q3
    clear hx hcell hkl cc hout hbin hX bel hV hb hinv hfew bV hm HLi
    go_wp2_with fail
    rw [← HV1.out]
    refine P.out.mono ?_
    rintro e w1 ⟨y,ro',rn',rc',sl',rfl,hya,hyin,hbin1,hli1,hfr⟩
    have out1:=outV.fr hfr
    have X1:=(hfr.typ _ _ _ _ XV (by decide) (by decide)).trans XV
    have bel1:Below w.heap.size w w1:=belV.trans hfr.below
    have HYa:=hide hya
    have HLi1:=hide hli1
    obtain ⟨y0,hy0⟩:∃ y0,y0=y.a.err:=⟨_,rfl⟩
    obtain ⟨y1,hy1⟩:∃ y1,y1=y.a.pos:=⟨_,rfl⟩
    obtain ⟨y2,hy2⟩:∃ y2,y2=y.cts.length:=⟨_,rfl⟩
    obtain ⟨y3,hy3⟩:∃ y3,y3=y.a.cost:=⟨_,rfl⟩
    rw [← hy0,← hy1,← hy2,← hy3]
    obtain ⟨W2,hW2⟩:∃ W2,W2=w1.alloc (.cells #[.int .i64 y0,.int .i64 y1,.slice y.co y2 y.cap,.int .i64 y3] 48):=⟨_,rfl⟩
    have b2:Below w1.heap.size w1 W2:=by rw [hW2];exact (Below.refl _ _).alloc (Nat.le_refl _) _
    have bel2:Below w.heap.size w W2:=bel1.trans (b2.mono bel1.size)
    have out2:=out1.below b2
    have yin2:=hyin.below b2
    have bin2:=hbin1.below b2
    have X2:=below_block b2 X1
    have HNB:Hid (∀ j u,[Value.int .i64 y0,.int .i64 y1,.slice y.co y2 y.cap,.int .i64 y3][j]?=some u→W2.cell? ((⟨w1.heap.size,0,none⟩:Addr).add j)=some u):=by
     refine seg_news ?_
     rw [hW2]
     have:=seg_new w1 #[.int .i64 y0,.int .i64 y1,.slice y.co y2 y.cap,.int .i64 y3] 48
     simpa using this
    have H1:Hid (∀ u∈[Value.int .i64 y0,.int .i64 y1,.slice y.co y2 y.cap,.int .i64 y3],u.oneCell'=true):=by
     intro u hu
     simp only [List.mem_cons,List.not_mem_nil,or_false] at hu
     rcases hu with e | e | e | e <;> (subst e;rfl)
    have HYc:Hid (y.cells=[Value.int .i64 y0,.int .i64 y1,.slice y.co y2 y.cap,.int .i64 y3]):=by show _=_;rw [hy0,hy1,hy2,hy3];rfl
    have hs2:W2.heap.size=w1.heap.size+1:=by rw [hW2];simp
    have hws:w.heap.size≤W2.heap.size:=bel2.size
    have HW2:=hide hW2
    clear P hya hli1 out1 outV X1 XV hfr hyin hbin1 hy0 hy1 hy2 hy3 hW2 q0 q1 q2 q3 q4 q5 q6 belV
    go_wp2_with (rw [← HW2.out];at_builtin;refine wpList_append_lies _ rfl _ _ 27 rfl w.heap.size 48 i0 (.agg #[.int .i64 0,.int .i64 0,.slice none 0 0,.int .i64 0]) 4 48 Tryz.underlying27 hi hz0 hz1 hz2 rfl (by decide) _ _ _ rfl out2.own ⟨w1.heap.size,0,none⟩ 1 1 [.int .i64 y0,.int .i64 y1,.slice y.co y2 y.cap,.int .i64 y3] rfl rfl HNB.out H1.out (by decide) (by unfold maxLen;omega) (by omega) hws (w1.heap.size+1) hs2 ?_)
    intro g' cp' wz ownZ grZ hatZ hltZ
    rw [← HYc.out] at ownZ
    have outZ:=out2.push yin2 ownZ grZ
    have binZ:=bin_grown bin2 out2.own grZ
    have XZ:=blk_grown out2.own grZ X2 (by decide)
    have belZ:Below w.heap.size w wz:=bel2.grown grZ hws (fun j hj=>(own_base out2.own j hj).1)
    have HLiZ:Hid (Lies sl' (playB b0 (dns (l.take (k+1)))).1.l):=by show Lies _ _;rw [HNx.out];exact HLi1.out
    have HYsZ:Hid ((ys++[y]).map (fun y=>y.a)=(playB b0 (dns (l.take (k+1)))).2):=by
     show _=_
     rw [HNx.out,List.map_append,HYs.out];simp [HYa.out]
    have binZ':BIn wz w.heap.size (w.heap.size+1) ro' rn' rc' (playB b0 (dns (l.take (k+1)))).1.hz sl':=by rw [HNx.out];exact binZ
    clear out2 yin2 bin2 X2 ownZ grZ hatZ hltZ HNB HYs HYa HLi1 HNx bel2 binZ
    go_wp2
    go_roundw
    case rel=>exact ⟨k+1,cp',_,ro',rn',rc',sl',_,by omega,by go_num,rfl,outZ,binZ',HLiZ,HYsZ,XZ,belZ⟩
    case measure=>simp [intOf];omega
   ·have he:k=n:=by omega
    subst he
    have e1:l.take k=l:=List.take_of_length_le (by rw [← HN.out];exact Nat.le_refl _)
    rw [e1] at hbin HLi HYs
    obtain ⟨hz,hhz⟩:∃ hz,hz=(playB b0 (dns l)).1.hz:=⟨_,rfl⟩
    rw [← hhz] at hbin
    obtain ⟨q0,q1,q2,q3⟩:=two_cells hbin.b
    obtain ⟨x0,x1,x2,x3⟩:=two_cells hX
    have hg:wr.grownBy ((wr.setCell ⟨w.heap.size,0,none⟩ (.slice ro rn rc)).setCell ⟨w.heap.size,1,none⟩ (.int .i64 hz)) (some w.heap.size):=grown_trans grown_set grown_set (fun k hk=>.inl hk)
    have FIN:Hid (PlPost l w (.returned (.tuple #[.agg #[.slice ro rn rc,.int .i64 hz],.slice oo k d,.int .i64 0])) ((wr.setCell ⟨w.heap.size,0,none⟩ (.slice ro rn rc)).setCell ⟨w.heap.size,1,none⟩ (.int .i64 hz))):=by
     have hkl:k=l.length:=HN.out
     refine .inr ⟨by omega,ro,oo,rn,rc,d,hz,sl,ys,by rw [hkl],?_,HLi.out,hhz,?_,HYs.out,(bel.setCell (Nat.le_refl _) _).setCell (Nat.le_refl _) _⟩
     ·exact hbin.row.keep hX ⟨by decide,by decide,by decide,by decide⟩ hg
     ·rw [← hkl]
      exact ⟨own_keep hout.own hg (fun k' hk' e=>by injection e with e;subst e;exact own_far hout.own hX (by decide) hk'),fun a ha=>⟨(hout.ans a ha).cs,csin_keep (hout.ans a ha).inn hX (by decide) (by decide) hg⟩⟩
    clear HLi HYs hout hbin hX hg hhz HN
    go_wp2
    exact bodyPost_ret (v:=.tuple #[.agg #[.slice ro rn rc,.int .i64 hz],.slice oo k d,.int .i64 0]) (by simp [results,Tryz.results14,go_sem,x0,x1]) rfl FIN.out
open Go.RowKit Go.GrainU
def hostB:ByteArray:=⟨#[104,111,115,116]⟩
def dAdd (h:ByteArray) (t v:Int):Dn:=⟨1,0,0,[(hostB,h)],t,v,⟨#[]⟩⟩
def dAsk (s:ByteArray) (t:Int):Dn:=⟨4,0,t,[],0,0,s⟩
def dRoll (t:Int):Dn:=⟨2,0,t,[],0,0,⟨#[]⟩⟩
theorem din_none (w:World) (d:Dn) (h:d.se=[]) (ht:d.tx.size≤9223372036854775807):DIn w ⟨d,none,0⟩ :=
 ⟨.inl (by rw [h];rfl),fun k hk=>by rw [h] at hk;simp at hk,fun _=>⟨by rw [h];rfl,rfl⟩,ht⟩
theorem acells4_at:∀ (l:List AT) (k j:Nat),k<l.length→j<4→(acells4 l)[k*4+j]?=(l.getD k ⟨⟨1,0,[],0⟩,[],none,0⟩).cells[j]?
 | [],k,j,h,_=>by simp at h
 | x::r,0,j,_,hj=>by
  show (x.cells++acells4 r)[0*4+j]?=x.cells[j]?
  rw [Nat.zero_mul,Nat.zero_add,List.getElem?_append_left (by show j<4;exact hj)]
 | x::r,k+1,j,h,hj=>by
  have ih:=acells4_at r k j (by simpa using h) hj
  show (x.cells++acells4 r)[(k+1)*4+j]?=_
  rw [List.getElem?_append_right (by show 4≤_;omega),show (k+1)*4+j-x.cells.length=k*4+j from by show (k+1)*4+j-4=_;omega,ih]
  simp
end Go.Proofs.YtoldmigappbjcaaGreatDoor
