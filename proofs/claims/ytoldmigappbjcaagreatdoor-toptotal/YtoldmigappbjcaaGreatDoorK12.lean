import Derived.Deep.RegionWith
import Derived.Test.YtoldmigappbjcaaGreatDoorK07
import Derived.Test.YtoldmigappbjcaaGreatDoorK11
namespace Go.GrainU
open Go.RowKit
theorem cell_grown {w w':World} {B Z o:Nat} {v:Value} (g:w.grownBy w' (some B)) (hZ:Z≠B) (h:w.cell? ⟨Z,o,none⟩=some v):w'.cell? ⟨Z,o,none⟩=some v:=by
 have hl:=World.block_lt_of_cell? w _ h
 have:=g.block Z hl (fun e=>hZ (Option.some.inj e))
 rw [← h]
 simp [World.cell?,this]
theorem chnF_none {p:St→Except Flt (Ex×St)} {sg:List (List UInt8)} {k:Nat} {e:Ex} {st:St} (h:accAny sg st.r=none):chnF p sg (k+1) e st=.ok (e,st):=by rw [chnF,h]
theorem chnF_part {p:St→Except Flt (Ex×St)} {sg:List (List UInt8)} {k:Nat} {e:Ex} {st:St} {x r:List UInt8} {f:Flt} (h:accAny sg st.r=some (x,r)) (hp:p ⟨r,st.n⟩=.error f):chnF p sg (k+1) e st=.error f:=by rw [chnF,h];simp [hp]
theorem chnF_fin {p:St→Except Flt (Ex×St)} {sg:List (List UInt8)} {k:Nat} {e u:Ex} {st s1:St} {x r:List UInt8} {f:Flt} (h:accAny sg st.r=some (x,r)) (hp:p ⟨r,st.n⟩=.ok (u,s1)) (hf:fin (.mk ⟨4,0,0,lit x,[],[]⟩ [e,u]) s1=.error f):chnF p sg (k+1) e st=.error f:=by rw [chnF,h];simp [hp,hf]
theorem chnF_go {p:St→Except Flt (Ex×St)} {sg:List (List UInt8)} {k:Nat} {e u g:Ex} {st s1 s2:St} {x r:List UInt8} (h:accAny sg st.r=some (x,r)) (hp:p ⟨r,st.n⟩=.ok (u,s1)) (hf:fin (.mk ⟨4,0,0,lit x,[],[]⟩ [e,u]) s1=.ok (g,s2)):chnF p sg (k+1) e st=chnF p sg k g s2:=by
 rw [chnF,h]
 simp [hp,hf]
theorem accAny_len {l:List (List UInt8)} {r x r1:List UInt8} (h:accAny l r=some (x,r1)) (hl:∀ y∈l,0<y.length):r1.length<r.length:=by
 induction l with
 | nil=>simp [accAny] at h
 | cons a t ih =>
  rw [accAny] at h
  cases ha:acc a r with
  | some r2 =>
   rw [ha] at h
   simp at h
   obtain ⟨_,e2,e3⟩:=acc_some ha
   have:=(skip_suf r).length_le
   have h0:=hl a (by simp)
   rw [← h.2,e2,List.length_drop]
   omega
  | none =>
   rw [ha] at h
   exact ih h fun y hy=>hl y (by simp [hy])
theorem fin_ok {e g:Ex} {st s2:St} (h:fin e st=.ok (g,s2)):g=e∧s2=⟨st.r,st.n+1⟩∧st.n+1≤100:=by
 unfold fin at h
 split at h
 ·cases h
 ·injection h with h
  simp at h
  exact ⟨h.1.symm,h.2.symm,by omega⟩
end Go.GrainU
namespace Go.Proofs.YtoldmigappbjcaaGreatDoor
open Go.RowKit Go.GrainU
set_option maxHeartbeats 8000000 in
theorem tchain_of {d:Int} {p:St→Except Flt (Ex×St)} (hf:Reads 148 d p) (hmono:∀ st x q,p st=.ok (x,q)→q.r.length≤st.r.length) (sg:List (List UInt8)) (hsg:∀ y∈sg,0<y.length∧y.length≤100) (bo:Option Addr) (m c:Nat)
  (s:ByteArray) (st:St) (B Z1 Z2:Nat) (w0 w:World) (h:Rd 95 w B s st) (hs:s.size≤2000) (hn:st.n≤100) (hv:ErrV w0) (hb0:Below w0.heap.size w0 w) (hB0:w0.heap.size≤B) (z1:w.cell? ⟨Z1,0,none⟩=some (.pointer (some ⟨B,0,none⟩))) (z2:w.cell? ⟨Z2,0,none⟩=some (.int .i64 d)) (hZ1:Z1≠B) (hZ2:Z2≠B)
  (hb:Seg w bo (wcells (slit sg))) (hm:m=sg.length) (hM:m≤100) (hne:∀ b off,bo=some ⟨b,off,none⟩→b≠B) :
  Calls Tryz.prog 104 #[.pointer (some ⟨B,0,none⟩),.slice bo m c,.func (.func 147) #[] #[.pointer (some ⟨Z1,0,none⟩),.pointer (some ⟨Z2,0,none⟩)]] w (EPost s B w (chn p sg st)):=by
 have hB:=h.lt
 obtain ⟨X,hX⟩:∃ X,X=w.heap.size:=⟨_,rfl⟩
 obtain ⟨V,hV⟩:∃ V,V=w.alloc (.cells #[.int .i64 0,.int .i64 0,.int .i64 0,.string ⟨#[]⟩,.slice none 0 0,.slice none 0 0,.slice none 0 0] 41):=⟨_,rfl⟩
 have R0:Rd 95 V B s st:=by rw [hV];exact h.alloc _
 have G0:w.grownBy V (some B):=by rw [hV];exact grown_trans (World.grownBy.refl _ _) (World.grownBy_alloc _ _ none) (fun _ hk=>by cases hk)
 have FX:V.heap[X]?=some (.cells #[.int .i64 0,.int .i64 0,.int .i64 0,.string ⟨#[]⟩,.slice none 0 0,.slice none 0 0,.slice none 0 0] 41 (0,0)):=by rw [hV,hX];exact heap_alloc_new w _
 have hVs:V.heap.size=X+1:=by rw [hV,hX];simp
 have HCL:=hide (fun (s':ByteArray) (st':St) (w':World) (h':Rd 95 w' B s' st') (hs':s'.size≤2000) (hn':st'.n≤100) (g':w.grownBy w' (some B))=>tclos_of hf s' st' B Z1 Z2 w0 w' h' hs' hn' hv (hb0.grown g' hb0.size (fun j hj=>by cases hj;exact hB0)) hB0 (cell_grown g' hZ1 z1) (cell_grown g' hZ2 z2))
 have HSG:=hide (fun (w':World) (g':w.grownBy w' (some B))=>seg_grown hb g' hne)
 have HF:=hide FX
 have HG:=hide G0
 have HR:=hide R0
 have HV:=hide hV
 have HX:=hide hX
 have HNE:=hide hne
 have HM:=hide hm
 have HMO:=hide hmono
 have HLS:=hide hsg
 have hXB:X≠B:=by omega
 have hBX:B<X:=by omega
 clear hV FX G0 R0 hf hX hb hne hv hb0 z1 z2 hZ1 hZ2 hB0 h hm hmono hsg
 go_enter Tryz.func104,Tryz.ntmps104
 go_wp2_with fail
 rw [← HV.out,← HX.out]
 refine (HCL.out s st V HR.out hs hn HG.out).mono ?_
 rintro e w1 ⟨⟨t0,q0,hx,rfl,hin,R1,hq⟩ | ⟨f,hf,rfl⟩,g⟩
 rotate_left
 ·have HE:Hid (chn p sg st=.error f):=by show _=_;unfold chn;rw [hf]
  have G:=grown_trans HG.out g (fun _ hk=>.inl hk)
  clear hf
  go_wp2_with fail
  exact ⟨rfl,.inr ⟨f,HE.out,rfl⟩,G⟩
 have HQ:Hid (chn p sg st=chnF p sg (q0.r.length+1) t0.ex q0):=by show _=_;unfold chn;rw [hx]
 obtain ⟨Y,hY⟩:∃ Y,Y=w1.heap.size:=⟨_,rfl⟩
 have hXY:X+1≤Y:=by have:=g.size;omega
 have hYB:Y≠B:=by have:=R1.lt;omega
 have G1:=grown_trans HG.out g (fun _ hk=>.inl hk)
 have FX1:=grown_block g HF.out hXB
 obtain ⟨W,hW⟩:∃ W,W=w1.alloc (.cells #[.int .i64 t0.hd.kind,.int .i64 t0.hd.n,.int .i64 t0.hd.range,.string t0.hd.word,.slice t0.sp.ma t0.hd.ms.length t0.sp.mc,.slice t0.sp.ba t0.hd.bs.length t0.sp.bc,.slice t0.sp.ka t0.kids.length t0.sp.kc] 41):=⟨_,rfl⟩
 have G2:w.grownBy W (some B):=by rw [hW];exact grown_trans G1 (World.grownBy_alloc _ _ none) (fun _ hk=>by cases hk)
 have R2:Rd 95 W B s q0:=by rw [hW];exact R1.alloc _
 have FX2:W.heap[X]?=some (.cells #[.int .i64 0,.int .i64 0,.int .i64 0,.string ⟨#[]⟩,.slice none 0 0,.slice none 0 0,.slice none 0 0] 41 (0,0)):=by rw [hW,Below.heap_alloc _ _ _ (by omega)];exact FX1
 have FY2:W.heap[Y]?=some (.cells #[.int .i64 t0.hd.kind,.int .i64 t0.hd.n,.int .i64 t0.hd.range,.string t0.hd.word,.slice t0.sp.ma t0.hd.ms.length t0.sp.mc,.slice t0.sp.ba t0.hd.bs.length t0.sp.bc,.slice t0.sp.ka t0.kids.length t0.sp.kc] 41 (0,0)):=by rw [hW,hY];exact heap_alloc_new w1 _
 have IN2:t0.In (strip Y (cut (X+1) W)):=by rw [hW];rw [hVs] at hin;exact hin.cs_new hY
 have HI:=hide (show (∃ (t:ET) (q:St) (k:Nat),(chn p sg st=chnF p sg k t.ex q∧q.r.length<k)∧t.In (strip Y (cut (X+1) W))∧W.heap[Y]?=some (.cells #[.int .i64 t.hd.kind,.int .i64 t.hd.n,.int .i64 t.hd.range,.string t.hd.word,.slice t.sp.ma t.hd.ms.length t.sp.mc,.slice t.sp.ba t.hd.bs.length t.sp.bc,.slice t.sp.ka t.kids.length t.sp.kc] 41 (0,0))∧W.heap[X]?=some (.cells #[.int .i64 0,.int .i64 0,.int .i64 0,.string ⟨#[]⟩,.slice none 0 0,.slice none 0 0,.slice none 0 0] 41 (0,0))∧Rd 95 W B s q∧q.n≤100∧w.grownBy W (some B)) from ⟨t0,q0,_,⟨HQ.out,by omega⟩,IN2,FY2,FX2,R2,hq,G2⟩)
 have HW:=hide hW
 have HY:=hide hY
 clear hW hx hin R1 g G1 FX1 G2 R2 FX2 FY2 IN2 HQ hq hY
 unfold eval
 go_wp2_with fail
 rw [← HW.out,← HY.out]
 go_loopw [8] (fun _ wr=>∃ (t:ET) (q:St) (k:Nat),Hid (chn p sg st=chnF p sg k t.ex q∧q.r.length<k)∧Hid (t.In (strip Y (cut (X+1) wr)))∧wr.heap[Y]?=some (.cells #[.int .i64 t.hd.kind,.int .i64 t.hd.n,.int .i64 t.hd.range,.string t.hd.word,.slice t.sp.ma t.hd.ms.length t.sp.mc,.slice t.sp.ba t.hd.bs.length t.sp.bc,.slice t.sp.ka t.kids.length t.sp.kc] 41 (0,0))∧wr.heap[X]?=some (.cells #[.int .i64 0,.int .i64 0,.int .i64 0,.string ⟨#[]⟩,.slice none 0 0,.slice none 0 0,.slice none 0 0] 41 (0,0))∧Rd 95 wr B s q∧q.n≤100∧w.grownBy wr (some B)) (fun _ wr=>s.size-(intOf ((wr.cell? ⟨B,1,none⟩).getD undef)).toNat)
 case atStart =>
  obtain ⟨t,q,k,a,b,c,d,e,f,g⟩:=HI.out
  exact ⟨t,q,k,a,b,c,d,e,f,g⟩
 case round =>
  clear HI HW
  obtain ⟨t,q,k,HQ,HIN,FY,FXr,R,hq,gr⟩:=hrel
  obtain ⟨k',hk'⟩:∃ k',k=k'+1:=⟨k-1,by have:=HQ.out.2;omega⟩
  subst hk'
  have HS:=hide (signs_any sg bo m c s q B wr R hs (HSG.out wr gr) HM.out hM HNE.out)
  go_wp2_with fail
  refine HS.out.mono ?_
  rintro e w2 ⟨⟨kk,x,r1,hx,hkm,hxk,rfl,R2⟩ | ⟨hx,rfl,R2⟩,g2⟩
  ·have G2:=grown_trans gr g2 (fun _ hk=>.inl hk)
   have FY2:=grown_block g2 FY hYB
   have FX2:=grown_block g2 FXr hXB
   have HIN2:=hide (HIN.out.cs_grown g2 (b:=X+1) (by omega))
   have HA:=hide hx
   have hkl:kk<(slit sg).length:=by rw [slit,List.length_map,← HM.out];exact hkm
   obtain ⟨b,off,hbo,hbl,hcell⟩:=seg_word (HSG.out w2 G2) hkl
   have hxs:(slit sg).getD kk ⟨#[]⟩=lit x:=by
    have hk2:kk<sg.length:=by rw [← HM.out];exact hkm
    rw [slit_at hk2]
    rw [List.getElem?_eq_getElem hk2] at hxk
    rw [Option.some.inj hxk]
   have c0:w2.cell? ⟨b,off+kk,none⟩=some (.string (lit x)):=by rw [← hxs];exact hcell kk hkl
   have hbB:b≠B:=HNE.out b off hbo
   have HXM:=hide (HLS.out x (List.mem_of_getElem? hxk))
   obtain ⟨y0,y1,y2,y3,y4,y5,y6⟩:=seven_cells FY2
   have hk0:¬ (kk:Int)<0:=by omega
   have hkm':(kk:Int)<(m:Int):=by omega
   have R2d:=R2.drewN 1
   have HC1:=hide (fun (v:World) (hv:Rd 95 v B s ⟨r1,q.n⟩) (gv:w.grownBy v (some B))=>HCL.out s ⟨r1,q.n⟩ v hv hs hq gv)
   have hw2:=g2.size
   subst hbo
   have HRw:=hide R.cells.2.1
   have hql:q.r.length≤s.size:=suf_len R.suf
   have hYw:Y<wr.heap.size:=lt_of_block FY
   clear hx hxk hxs hcell hkl g2 FY FXr R gr HIN HS
   go_wp2_with fail
   have HPE:Hid (∀ ff,p ⟨r1,q.n⟩=.error ff→chn p sg st=.error ff):=fun ff hff=>by rw [HQ.out.1,chnF_part HA.out hff]
   have HEND:=hide (fun (u:ET) (q3:St) (Z:Nat) (v:World) (hv:Rd 95 v B s q3) (hn3:q3.n≤100)=>ended_any (.node ⟨4,0,0,lit x,[],[]⟩ ⟨none,0,none,0,some ⟨Z,0,none⟩,2⟩ [t,u]) s q3 B v hv (by omega))
   simp only [eval,ET.hd,ET.sp,ET.kids,List.length_nil,List.length_cons] at HEND
   go_region_with
    (first
     | (go_at_call 147;refine (HC1.out _ (by first | exact R2 | exact R2.drewN 1) (by first | exact G2 | exact grown_drewN G2 1)).mono ?_;rintro e w3 ⟨⟨u,q3,hx3,rfl,hin3,R3,hq3⟩ | ⟨ff,hff,rfl⟩,g3⟩;rotate_left;(have HE:=hide (HPE.out ff hff);have G3:=grown_trans (by first | exact G2 | exact grown_drewN G2 1) g3 (fun _ hk=>.inl hk);clear hff;go_wp2_with fail;exact ⟨rfl,.inr ⟨ff,HE.out,rfl⟩,G3⟩);have c3:=cell_grown g3 hbB (by assumption:_=some (Value.string (lit x)));have FY3:=grown_block g3 (by assumption:_=some (Obj.cells #[.int .i64 t.hd.kind,.int .i64 t.hd.n,.int .i64 t.hd.range,.string t.hd.word,.slice t.sp.ma t.hd.ms.length t.sp.mc,.slice t.sp.ba t.hd.bs.length t.sp.bc,.slice t.sp.ka t.kids.length t.sp.kc] 41 (0,0))) hYB;obtain ⟨v0,v1,v2,v3,v4,v5,v6⟩:=seven_cells FY3;have g23:w2.grownBy w3 (some B):=grown_trans (by first | exact World.grownBy.refl _ _ | exact grown_drewN (World.grownBy.refl _ _) 1) g3 (fun _ hk=>.inl hk);have hin3':u.In (cut w2.heap.size w3):=hin3;have hb3:b<w3.heap.size:=World.block_lt_of_cell? w3 _ c3;have hb4:(w3.alloc (Obj.cells #[.int .i64 t.hd.kind,.int .i64 t.hd.n,.int .i64 t.hd.range,.string t.hd.word,.slice t.sp.ma t.hd.ms.length t.sp.mc,.slice t.sp.ba t.hd.bs.length t.sp.bc,.slice t.sp.ka t.kids.length t.sp.kc,.int .i64 u.hd.kind,.int .i64 u.hd.n,.int .i64 u.hd.range,.string u.hd.word,.slice u.sp.ma u.hd.ms.length u.sp.mc,.slice u.sp.ba u.hd.bs.length u.sp.bc,.slice u.sp.ka u.kids.length u.sp.kc] 41)).cell? ⟨b,off+kk,none⟩=some (Value.string (lit x)):=(((Below.refl _ w3).alloc (Nat.le_refl _) _).cell (p:=⟨b,off+kk,none⟩) hb3).trans c3;unfold eval)
     | (go_at_call 146;refine (HEND.out u q3 w3.heap.size _ (R3.alloc _) hq3).mono ?_;rintro e w5 ⟨⟨hfin,rfl,R5⟩ | ⟨hfin,rfl⟩,g5⟩;rotate_left;(have HE:Hid (chn p sg st=.error (4,q3.r.length)):=(by show _=_;rw [HQ.out.1,chnF_fin HA.out hx3 (by simpa only [ET.ex,exL] using hfin)]);have G5:=grown_trans (grown_trans (grown_trans G2 g23 (fun _ hk=>.inl hk)) (World.grownBy_alloc _ _ none) (fun _ hk=>by cases hk)) g5 (fun _ hk=>.inl hk);clear hfin;go_wp2_with fail;exact ⟨rfl,.inr ⟨_,HE.out,rfl⟩,G5⟩);have FY5:=grown_block g5 ((Below.heap_alloc _ _ _ (lt_of_block FY3)).trans FY3) hYB;obtain ⟨a0,a1,a2,a3,a4,a5,a6⟩:=seven_cells FY5;obtain ⟨b0,b1,b2,b3,b4,b5,b6⟩:=thaw7 FY5))
   all_goals
    have hex:ET.ex (ET.node ⟨4,0,0,lit x,[],[]⟩ ⟨none,0,none,0,some ⟨w3.heap.size,0,none⟩,2⟩ [t,u])=.mk ⟨4,0,0,lit x,[],[]⟩ [t.ex,u.ex]:=by simp [ET.ex,exL]
    have hfin2:fin (.mk ⟨4,0,0,lit x,[],[]⟩ [t.ex,u.ex]) q3=.ok (ET.ex (ET.node ⟨4,0,0,lit x,[],[]⟩ ⟨none,0,none,0,some ⟨w3.heap.size,0,none⟩,2⟩ [t,u]),⟨q3.r,q3.n+1⟩):=by rw [hex] at hfin ⊢;exact hfin
    have hl1:q3.r.length≤r1.length:=HMO.out ⟨r1,q.n⟩ _ _ hx3
    have hl2:r1.length<q.r.length:=accAny_len HA.out (fun y hy=>(HLS.out y hy).1)
    have HQ2:Hid (chn p sg st=chnF p sg k' (ET.ex (ET.node ⟨4,0,0,lit x,[],[]⟩ ⟨none,0,none,0,some ⟨w3.heap.size,0,none⟩,2⟩ [t,u])) ⟨q3.r,q3.n+1⟩∧q3.r.length<k'):=⟨by rw [HQ.out.1,chnF_go HA.out hx3 hfin2],by have:=HQ.out.2;omega⟩
    have hn1:q3.n+1≤100:=(fin_ok hfin2).2.2
    have hs23:=g23.size
    have IN3t:=HIN2.out.cs_grown g23 (b:=X+1) (by omega)
    have IN3u:=ET.In.cs (b:=X+1) (Y:=Y) (b':=w2.heap.size) (by omega) (by omega) u hin3'
    have INp:=pair_in (ty:=41) (x:=x) IN3t IN3u (by omega) (by omega) HXM.out.2
    have INq:=INp.cs_grown g5 (b:=X+1) (by omega)
    have HINF:=hide (ET.In.cs_put (u:=(ET.node ⟨4,0,0,lit x,[],[]⟩ ⟨none,0,none,0,some ⟨w3.heap.size,0,none⟩,2⟩ [t,u])) INq)
    have G4:=grown_trans (grown_trans (grown_trans G2 g23 (fun _ hk=>.inl hk)) (World.grownBy_alloc _ _ none) (fun _ hk=>by cases hk)) g5 (fun _ hk=>.inl hk)
    have FX3:=grown_block g23 FX2 hXB
    have FX5:=grown_block g5 ((Below.heap_alloc _ _ _ (lt_of_block FX3)).trans FX3) hXB
    have HFXF:=hide ((put7_far (t:=(ET.node ⟨4,0,0,lit x,[],[]⟩ ⟨none,0,none,0,some ⟨w3.heap.size,0,none⟩,2⟩ [t,u])) (X:=Y) (w:=w5) (k:=X) (by omega)).trans FX5)
    have HFYF:=hide (put7_blk (t:=(ET.node ⟨4,0,0,lit x,[],[]⟩ ⟨none,0,none,0,some ⟨w3.heap.size,0,none⟩,2⟩ [t,u])) FY5)
    have HRF:=hide (put7_rd (t:=(ET.node ⟨4,0,0,lit x,[],[]⟩ ⟨none,0,none,0,some ⟨w3.heap.size,0,none⟩,2⟩ [t,u])) R5 (Ne.symm hYB))
    have HGF:=hide (put7_grown (t:=(ET.node ⟨4,0,0,lit x,[],[]⟩ ⟨none,0,none,0,some ⟨w3.heap.size,0,none⟩,2⟩ [t,u])) G4 (X:=Y) (by have:=HX.out;omega))
    have hp1:pos s q.r<pos s q3.r:=by
     have:=suf_len HRF.out.suf
     simp only at this
     unfold pos
     omega
    clear hx3 hfin hfin2 hex INp INq IN3t IN3u FX3 FX5 G4 FY5 a0 a1 a2 a3 a4 a5 a6 b0 b1 b2 b3 b4 b5 b6
    go_wp2_with fail
    go_roundw
    case rel=>exact ⟨(ET.node ⟨4,0,0,lit x,[],[]⟩ ⟨none,0,none,0,some ⟨w3.heap.size,0,none⟩,2⟩ [t,u]),⟨q3.r,q3.n+1⟩,k',HQ2,HINF.out,HFYF.out,HFXF.out,HRF.out,hn1,HGF.out⟩
    case measure =>
     show s.size-(intOf (((put7 w5 Y (ET.node ⟨4,0,0,lit x,[],[]⟩ ⟨none,0,none,0,some ⟨w3.heap.size,0,none⟩,2⟩ [t,u])).cell? ⟨B,1,none⟩).getD undef)).toNat<_
     rw [HRF.out.cells.2.1,HRw.out]
     have:=suf_len HRF.out.suf
     simp [intOf]
     unfold pos at *
     simp only at *
     omega
  ·have HE:Hid (chn p sg st=.ok (t.ex,q)):=by show _=_;rw [HQ.out.1,chnF_none hx]
   have G2:=grown_trans gr g2 (fun _ hk=>.inl hk)
   have FY2:=grown_block g2 FY hYB
   have FX2:=grown_block g2 FXr hXB
   obtain ⟨y0,y1,y2,y3,y4,y5,y6⟩:=seven_cells FY2
   obtain ⟨x0,x1,x2,x3,x4,x5,x6⟩:=seven_cells FX2
   obtain ⟨u0,u1,u2,u3,u4,u5,u6⟩:=thaw7 FX2
   have HRF:=hide (put7_rd (t:=t) R2 (Ne.symm hXB))
   have HGF:=hide (put7_grown (t:=t) G2 (X:=X) (by have:=HX.out;omega))
   have HIF:=hide (ET.In.low (b':=w.heap.size) (by have:=HX.out;omega) t (put7_in (t:=t) (ET.In.of_strip t (HIN.out.cs_grown g2 (b:=X+1) (by omega))) (X:=X) (by omega)))
   clear hx R2 g2 G2 FY2 FX2 FY FXr R gr HIN HQ
   unfold put7 at HRF HGF HIF
   go_wp2
   exact bodyPost_ret (v:=eval t) (by simp [eval,results,Tryz.results104,go_sem,x0,x1,x2,x3,x4,x5,x6]) rfl ⟨.inl ⟨t,q,HE.out,rfl,HIF.out,HRF.out,hq⟩,HGF.out⟩
set_option maxHeartbeats 8000000 in
theorem schain_of {d:Int} {p:St→Except Flt (Ex×St)} (hf:Reads 106 d p) (hmono:∀ st x q,p st=.ok (x,q)→q.r.length≤st.r.length) (sg:List (List UInt8)) (hsg:∀ y∈sg,0<y.length∧y.length≤100) (bo:Option Addr) (m c:Nat)
  (s:ByteArray) (st:St) (B Z1 Z2:Nat) (w0 w:World) (h:Rd 95 w B s st) (hs:s.size≤2000) (hn:st.n≤100) (hv:ErrV w0) (hb0:Below w0.heap.size w0 w) (hB0:w0.heap.size≤B) (z1:w.cell? ⟨Z1,0,none⟩=some (.pointer (some ⟨B,0,none⟩))) (z2:w.cell? ⟨Z2,0,none⟩=some (.int .i64 d)) (hZ1:Z1≠B) (hZ2:Z2≠B)
  (hb:Seg w bo (wcells (slit sg))) (hm:m=sg.length) (hM:m≤100) (hne:∀ b off,bo=some ⟨b,off,none⟩→b≠B) :
  Calls Tryz.prog 104 #[.pointer (some ⟨B,0,none⟩),.slice bo m c,.func (.func 105) #[] #[.pointer (some ⟨Z1,0,none⟩),.pointer (some ⟨Z2,0,none⟩)]] w (EPost s B w (chn p sg st)):=by
 have hB:=h.lt
 obtain ⟨X,hX⟩:∃ X,X=w.heap.size:=⟨_,rfl⟩
 obtain ⟨V,hV⟩:∃ V,V=w.alloc (.cells #[.int .i64 0,.int .i64 0,.int .i64 0,.string ⟨#[]⟩,.slice none 0 0,.slice none 0 0,.slice none 0 0] 41):=⟨_,rfl⟩
 have R0:Rd 95 V B s st:=by rw [hV];exact h.alloc _
 have G0:w.grownBy V (some B):=by rw [hV];exact grown_trans (World.grownBy.refl _ _) (World.grownBy_alloc _ _ none) (fun _ hk=>by cases hk)
 have FX:V.heap[X]?=some (.cells #[.int .i64 0,.int .i64 0,.int .i64 0,.string ⟨#[]⟩,.slice none 0 0,.slice none 0 0,.slice none 0 0] 41 (0,0)):=by rw [hV,hX];exact heap_alloc_new w _
 have hVs:V.heap.size=X+1:=by rw [hV,hX];simp
 have HCL:=hide (fun (s':ByteArray) (st':St) (w':World) (h':Rd 95 w' B s' st') (hs':s'.size≤2000) (hn':st'.n≤100) (g':w.grownBy w' (some B))=>sclos_of hf s' st' B Z1 Z2 w0 w' h' hs' hn' hv (hb0.grown g' hb0.size (fun j hj=>by cases hj;exact hB0)) hB0 (cell_grown g' hZ1 z1) (cell_grown g' hZ2 z2))
 have HSG:=hide (fun (w':World) (g':w.grownBy w' (some B))=>seg_grown hb g' hne)
 have HF:=hide FX
 have HG:=hide G0
 have HR:=hide R0
 have HV:=hide hV
 have HX:=hide hX
 have HNE:=hide hne
 have HM:=hide hm
 have HMO:=hide hmono
 have HLS:=hide hsg
 have hXB:X≠B:=by omega
 have hBX:B<X:=by omega
 clear hV FX G0 R0 hf hX hb hne hv hb0 z1 z2 hZ1 hZ2 hB0 h hm hmono hsg
 go_enter Tryz.func104,Tryz.ntmps104
 go_wp2_with fail
 rw [← HV.out,← HX.out]
 refine (HCL.out s st V HR.out hs hn HG.out).mono ?_
 rintro e w1 ⟨⟨t0,q0,hx,rfl,hin,R1,hq⟩ | ⟨f,hf,rfl⟩,g⟩
 rotate_left
 ·have HE:Hid (chn p sg st=.error f):=by show _=_;unfold chn;rw [hf]
  have G:=grown_trans HG.out g (fun _ hk=>.inl hk)
  clear hf
  go_wp2_with fail
  exact ⟨rfl,.inr ⟨f,HE.out,rfl⟩,G⟩
 have HQ:Hid (chn p sg st=chnF p sg (q0.r.length+1) t0.ex q0):=by show _=_;unfold chn;rw [hx]
 obtain ⟨Y,hY⟩:∃ Y,Y=w1.heap.size:=⟨_,rfl⟩
 have hXY:X+1≤Y:=by have:=g.size;omega
 have hYB:Y≠B:=by have:=R1.lt;omega
 have G1:=grown_trans HG.out g (fun _ hk=>.inl hk)
 have FX1:=grown_block g HF.out hXB
 obtain ⟨W,hW⟩:∃ W,W=w1.alloc (.cells #[.int .i64 t0.hd.kind,.int .i64 t0.hd.n,.int .i64 t0.hd.range,.string t0.hd.word,.slice t0.sp.ma t0.hd.ms.length t0.sp.mc,.slice t0.sp.ba t0.hd.bs.length t0.sp.bc,.slice t0.sp.ka t0.kids.length t0.sp.kc] 41):=⟨_,rfl⟩
 have G2:w.grownBy W (some B):=by rw [hW];exact grown_trans G1 (World.grownBy_alloc _ _ none) (fun _ hk=>by cases hk)
 have R2:Rd 95 W B s q0:=by rw [hW];exact R1.alloc _
 have FX2:W.heap[X]?=some (.cells #[.int .i64 0,.int .i64 0,.int .i64 0,.string ⟨#[]⟩,.slice none 0 0,.slice none 0 0,.slice none 0 0] 41 (0,0)):=by rw [hW,Below.heap_alloc _ _ _ (by omega)];exact FX1
 have FY2:W.heap[Y]?=some (.cells #[.int .i64 t0.hd.kind,.int .i64 t0.hd.n,.int .i64 t0.hd.range,.string t0.hd.word,.slice t0.sp.ma t0.hd.ms.length t0.sp.mc,.slice t0.sp.ba t0.hd.bs.length t0.sp.bc,.slice t0.sp.ka t0.kids.length t0.sp.kc] 41 (0,0)):=by rw [hW,hY];exact heap_alloc_new w1 _
 have IN2:t0.In (strip Y (cut (X+1) W)):=by rw [hW];rw [hVs] at hin;exact hin.cs_new hY
 have HI:=hide (show (∃ (t:ET) (q:St) (k:Nat),(chn p sg st=chnF p sg k t.ex q∧q.r.length<k)∧t.In (strip Y (cut (X+1) W))∧W.heap[Y]?=some (.cells #[.int .i64 t.hd.kind,.int .i64 t.hd.n,.int .i64 t.hd.range,.string t.hd.word,.slice t.sp.ma t.hd.ms.length t.sp.mc,.slice t.sp.ba t.hd.bs.length t.sp.bc,.slice t.sp.ka t.kids.length t.sp.kc] 41 (0,0))∧W.heap[X]?=some (.cells #[.int .i64 0,.int .i64 0,.int .i64 0,.string ⟨#[]⟩,.slice none 0 0,.slice none 0 0,.slice none 0 0] 41 (0,0))∧Rd 95 W B s q∧q.n≤100∧w.grownBy W (some B)) from ⟨t0,q0,_,⟨HQ.out,by omega⟩,IN2,FY2,FX2,R2,hq,G2⟩)
 have HW:=hide hW
 have HY:=hide hY
 clear hW hx hin R1 g G1 FX1 G2 R2 FX2 FY2 IN2 HQ hq hY
 unfold eval
 go_wp2_with fail
 rw [← HW.out,← HY.out]
 go_loopw [8] (fun _ wr=>∃ (t:ET) (q:St) (k:Nat),Hid (chn p sg st=chnF p sg k t.ex q∧q.r.length<k)∧Hid (t.In (strip Y (cut (X+1) wr)))∧wr.heap[Y]?=some (.cells #[.int .i64 t.hd.kind,.int .i64 t.hd.n,.int .i64 t.hd.range,.string t.hd.word,.slice t.sp.ma t.hd.ms.length t.sp.mc,.slice t.sp.ba t.hd.bs.length t.sp.bc,.slice t.sp.ka t.kids.length t.sp.kc] 41 (0,0))∧wr.heap[X]?=some (.cells #[.int .i64 0,.int .i64 0,.int .i64 0,.string ⟨#[]⟩,.slice none 0 0,.slice none 0 0,.slice none 0 0] 41 (0,0))∧Rd 95 wr B s q∧q.n≤100∧w.grownBy wr (some B)) (fun _ wr=>s.size-(intOf ((wr.cell? ⟨B,1,none⟩).getD undef)).toNat)
 case atStart =>
  obtain ⟨t,q,k,a,b,c,d,e,f,g⟩:=HI.out
  exact ⟨t,q,k,a,b,c,d,e,f,g⟩
 case round =>
  clear HI HW
  obtain ⟨t,q,k,HQ,HIN,FY,FXr,R,hq,gr⟩:=hrel
  obtain ⟨k',hk'⟩:∃ k',k=k'+1:=⟨k-1,by have:=HQ.out.2;omega⟩
  subst hk'
  have HS:=hide (signs_any sg bo m c s q B wr R hs (HSG.out wr gr) HM.out hM HNE.out)
  go_wp2_with fail
  refine HS.out.mono ?_
  rintro e w2 ⟨⟨kk,x,r1,hx,hkm,hxk,rfl,R2⟩ | ⟨hx,rfl,R2⟩,g2⟩
  ·have G2:=grown_trans gr g2 (fun _ hk=>.inl hk)
   have FY2:=grown_block g2 FY hYB
   have FX2:=grown_block g2 FXr hXB
   have HIN2:=hide (HIN.out.cs_grown g2 (b:=X+1) (by omega))
   have HA:=hide hx
   have hkl:kk<(slit sg).length:=by rw [slit,List.length_map,← HM.out];exact hkm
   obtain ⟨b,off,hbo,hbl,hcell⟩:=seg_word (HSG.out w2 G2) hkl
   have hxs:(slit sg).getD kk ⟨#[]⟩=lit x:=by
    have hk2:kk<sg.length:=by rw [← HM.out];exact hkm
    rw [slit_at hk2]
    rw [List.getElem?_eq_getElem hk2] at hxk
    rw [Option.some.inj hxk]
   have c0:w2.cell? ⟨b,off+kk,none⟩=some (.string (lit x)):=by rw [← hxs];exact hcell kk hkl
   have hbB:b≠B:=HNE.out b off hbo
   have HXM:=hide (HLS.out x (List.mem_of_getElem? hxk))
   obtain ⟨y0,y1,y2,y3,y4,y5,y6⟩:=seven_cells FY2
   have hk0:¬ (kk:Int)<0:=by omega
   have hkm':(kk:Int)<(m:Int):=by omega
   have R2d:=R2.drewN 1
   have HC1:=hide (fun (v:World) (hv:Rd 95 v B s ⟨r1,q.n⟩) (gv:w.grownBy v (some B))=>HCL.out s ⟨r1,q.n⟩ v hv hs hq gv)
   have hw2:=g2.size
   subst hbo
   have HRw:=hide R.cells.2.1
   have hql:q.r.length≤s.size:=suf_len R.suf
   have hYw:Y<wr.heap.size:=lt_of_block FY
   clear hx hxk hxs hcell hkl g2 FY FXr R gr HIN HS
   go_wp2_with fail
   have HPE:Hid (∀ ff,p ⟨r1,q.n⟩=.error ff→chn p sg st=.error ff):=fun ff hff=>by rw [HQ.out.1,chnF_part HA.out hff]
   have HEND:=hide (fun (u:ET) (q3:St) (Z:Nat) (v:World) (hv:Rd 95 v B s q3) (hn3:q3.n≤100)=>ended_any (.node ⟨4,0,0,lit x,[],[]⟩ ⟨none,0,none,0,some ⟨Z,0,none⟩,2⟩ [t,u]) s q3 B v hv (by omega))
   simp only [eval,ET.hd,ET.sp,ET.kids,List.length_nil,List.length_cons] at HEND
   go_region_with
    (first
     | (go_at_call 105;refine (HC1.out _ (by first | exact R2 | exact R2.drewN 1) (by first | exact G2 | exact grown_drewN G2 1)).mono ?_;rintro e w3 ⟨⟨u,q3,hx3,rfl,hin3,R3,hq3⟩ | ⟨ff,hff,rfl⟩,g3⟩;rotate_left;(have HE:=hide (HPE.out ff hff);have G3:=grown_trans (by first | exact G2 | exact grown_drewN G2 1) g3 (fun _ hk=>.inl hk);clear hff;go_wp2_with fail;exact ⟨rfl,.inr ⟨ff,HE.out,rfl⟩,G3⟩);have c3:=cell_grown g3 hbB (by assumption:_=some (Value.string (lit x)));have FY3:=grown_block g3 (by assumption:_=some (Obj.cells #[.int .i64 t.hd.kind,.int .i64 t.hd.n,.int .i64 t.hd.range,.string t.hd.word,.slice t.sp.ma t.hd.ms.length t.sp.mc,.slice t.sp.ba t.hd.bs.length t.sp.bc,.slice t.sp.ka t.kids.length t.sp.kc] 41 (0,0))) hYB;obtain ⟨v0,v1,v2,v3,v4,v5,v6⟩:=seven_cells FY3;have g23:w2.grownBy w3 (some B):=grown_trans (by first | exact World.grownBy.refl _ _ | exact grown_drewN (World.grownBy.refl _ _) 1) g3 (fun _ hk=>.inl hk);have hin3':u.In (cut w2.heap.size w3):=hin3;have hb3:b<w3.heap.size:=World.block_lt_of_cell? w3 _ c3;have hb4:(w3.alloc (Obj.cells #[.int .i64 t.hd.kind,.int .i64 t.hd.n,.int .i64 t.hd.range,.string t.hd.word,.slice t.sp.ma t.hd.ms.length t.sp.mc,.slice t.sp.ba t.hd.bs.length t.sp.bc,.slice t.sp.ka t.kids.length t.sp.kc,.int .i64 u.hd.kind,.int .i64 u.hd.n,.int .i64 u.hd.range,.string u.hd.word,.slice u.sp.ma u.hd.ms.length u.sp.mc,.slice u.sp.ba u.hd.bs.length u.sp.bc,.slice u.sp.ka u.kids.length u.sp.kc] 41)).cell? ⟨b,off+kk,none⟩=some (Value.string (lit x)):=(((Below.refl _ w3).alloc (Nat.le_refl _) _).cell (p:=⟨b,off+kk,none⟩) hb3).trans c3;unfold eval)
     | (go_at_call 146;refine (HEND.out u q3 w3.heap.size _ (R3.alloc _) hq3).mono ?_;rintro e w5 ⟨⟨hfin,rfl,R5⟩ | ⟨hfin,rfl⟩,g5⟩;rotate_left;(have HE:Hid (chn p sg st=.error (4,q3.r.length)):=(by show _=_;rw [HQ.out.1,chnF_fin HA.out hx3 (by simpa only [ET.ex,exL] using hfin)]);have G5:=grown_trans (grown_trans (grown_trans G2 g23 (fun _ hk=>.inl hk)) (World.grownBy_alloc _ _ none) (fun _ hk=>by cases hk)) g5 (fun _ hk=>.inl hk);clear hfin;go_wp2_with fail;exact ⟨rfl,.inr ⟨_,HE.out,rfl⟩,G5⟩);have FY5:=grown_block g5 ((Below.heap_alloc _ _ _ (lt_of_block FY3)).trans FY3) hYB;obtain ⟨a0,a1,a2,a3,a4,a5,a6⟩:=seven_cells FY5;obtain ⟨b0,b1,b2,b3,b4,b5,b6⟩:=thaw7 FY5))
   all_goals
    have hex:ET.ex (ET.node ⟨4,0,0,lit x,[],[]⟩ ⟨none,0,none,0,some ⟨w3.heap.size,0,none⟩,2⟩ [t,u])=.mk ⟨4,0,0,lit x,[],[]⟩ [t.ex,u.ex]:=by simp [ET.ex,exL]
    have hfin2:fin (.mk ⟨4,0,0,lit x,[],[]⟩ [t.ex,u.ex]) q3=.ok (ET.ex (ET.node ⟨4,0,0,lit x,[],[]⟩ ⟨none,0,none,0,some ⟨w3.heap.size,0,none⟩,2⟩ [t,u]),⟨q3.r,q3.n+1⟩):=by rw [hex] at hfin ⊢;exact hfin
    have hl1:q3.r.length≤r1.length:=HMO.out ⟨r1,q.n⟩ _ _ hx3
    have hl2:r1.length<q.r.length:=accAny_len HA.out (fun y hy=>(HLS.out y hy).1)
    have HQ2:Hid (chn p sg st=chnF p sg k' (ET.ex (ET.node ⟨4,0,0,lit x,[],[]⟩ ⟨none,0,none,0,some ⟨w3.heap.size,0,none⟩,2⟩ [t,u])) ⟨q3.r,q3.n+1⟩∧q3.r.length<k'):=⟨by rw [HQ.out.1,chnF_go HA.out hx3 hfin2],by have:=HQ.out.2;omega⟩
    have hn1:q3.n+1≤100:=(fin_ok hfin2).2.2
    have hs23:=g23.size
    have IN3t:=HIN2.out.cs_grown g23 (b:=X+1) (by omega)
    have IN3u:=ET.In.cs (b:=X+1) (Y:=Y) (b':=w2.heap.size) (by omega) (by omega) u hin3'
    have INp:=pair_in (ty:=41) (x:=x) IN3t IN3u (by omega) (by omega) HXM.out.2
    have INq:=INp.cs_grown g5 (b:=X+1) (by omega)
    have HINF:=hide (ET.In.cs_put (u:=(ET.node ⟨4,0,0,lit x,[],[]⟩ ⟨none,0,none,0,some ⟨w3.heap.size,0,none⟩,2⟩ [t,u])) INq)
    have G4:=grown_trans (grown_trans (grown_trans G2 g23 (fun _ hk=>.inl hk)) (World.grownBy_alloc _ _ none) (fun _ hk=>by cases hk)) g5 (fun _ hk=>.inl hk)
    have FX3:=grown_block g23 FX2 hXB
    have FX5:=grown_block g5 ((Below.heap_alloc _ _ _ (lt_of_block FX3)).trans FX3) hXB
    have HFXF:=hide ((put7_far (t:=(ET.node ⟨4,0,0,lit x,[],[]⟩ ⟨none,0,none,0,some ⟨w3.heap.size,0,none⟩,2⟩ [t,u])) (X:=Y) (w:=w5) (k:=X) (by omega)).trans FX5)
    have HFYF:=hide (put7_blk (t:=(ET.node ⟨4,0,0,lit x,[],[]⟩ ⟨none,0,none,0,some ⟨w3.heap.size,0,none⟩,2⟩ [t,u])) FY5)
    have HRF:=hide (put7_rd (t:=(ET.node ⟨4,0,0,lit x,[],[]⟩ ⟨none,0,none,0,some ⟨w3.heap.size,0,none⟩,2⟩ [t,u])) R5 (Ne.symm hYB))
    have HGF:=hide (put7_grown (t:=(ET.node ⟨4,0,0,lit x,[],[]⟩ ⟨none,0,none,0,some ⟨w3.heap.size,0,none⟩,2⟩ [t,u])) G4 (X:=Y) (by have:=HX.out;omega))
    have hp1:pos s q.r<pos s q3.r:=by
     have:=suf_len HRF.out.suf
     simp only at this
     unfold pos
     omega
    clear hx3 hfin hfin2 hex INp INq IN3t IN3u FX3 FX5 G4 FY5 a0 a1 a2 a3 a4 a5 a6 b0 b1 b2 b3 b4 b5 b6
    go_wp2_with fail
    go_roundw
    case rel=>exact ⟨(ET.node ⟨4,0,0,lit x,[],[]⟩ ⟨none,0,none,0,some ⟨w3.heap.size,0,none⟩,2⟩ [t,u]),⟨q3.r,q3.n+1⟩,k',HQ2,HINF.out,HFYF.out,HFXF.out,HRF.out,hn1,HGF.out⟩
    case measure =>
     show s.size-(intOf (((put7 w5 Y (ET.node ⟨4,0,0,lit x,[],[]⟩ ⟨none,0,none,0,some ⟨w3.heap.size,0,none⟩,2⟩ [t,u])).cell? ⟨B,1,none⟩).getD undef)).toNat<_
     rw [HRF.out.cells.2.1,HRw.out]
     have:=suf_len HRF.out.suf
     simp [intOf]
     unfold pos at *
     simp only at *
     omega
  ·have HE:Hid (chn p sg st=.ok (t.ex,q)):=by show _=_;rw [HQ.out.1,chnF_none hx]
   have G2:=grown_trans gr g2 (fun _ hk=>.inl hk)
   have FY2:=grown_block g2 FY hYB
   have FX2:=grown_block g2 FXr hXB
   obtain ⟨y0,y1,y2,y3,y4,y5,y6⟩:=seven_cells FY2
   obtain ⟨x0,x1,x2,x3,x4,x5,x6⟩:=seven_cells FX2
   obtain ⟨u0,u1,u2,u3,u4,u5,u6⟩:=thaw7 FX2
   have HRF:=hide (put7_rd (t:=t) R2 (Ne.symm hXB))
   have HGF:=hide (put7_grown (t:=t) G2 (X:=X) (by have:=HX.out;omega))
   have HIF:=hide (ET.In.low (b':=w.heap.size) (by have:=HX.out;omega) t (put7_in (t:=t) (ET.In.of_strip t (HIN.out.cs_grown g2 (b:=X+1) (by omega))) (X:=X) (by omega)))
   clear hx R2 g2 G2 FY2 FX2 FY FXr R gr HIN HQ
   unfold put7 at HRF HGF HIF
   go_wp2
   exact bodyPost_ret (v:=eval t) (by simp [eval,results,Tryz.results104,go_sem,x0,x1,x2,x3,x4,x5,x6]) rfl ⟨.inl ⟨t,q,HE.out,rfl,HIF.out,HRF.out,hq⟩,HGF.out⟩
open Go.RowKit Go.GrainU
set_option maxHeartbeats 4000000 in
theorem term_of {d:Int} {p:St→Except Flt (Ex×St)} (hf:Reads 148 d p) (hmono:∀ st x q,p st=.ok (x,q)→q.r.length≤st.r.length):Reads 106 d (chn p [[42]]):=by
 intro s st B w0 w h hs hn hv hb0 hB0
 have hB:=h.lt
 obtain ⟨Z,hZ⟩:∃ Z,Z=w.heap.size:=⟨_,rfl⟩
 obtain ⟨V,hV⟩:∃ V,V=(((w.alloc (.cells #[.pointer (some ⟨B,0,none⟩)] 123)).alloc (.cells #[.int .i64 d] 3)).alloc (.cells #[.int .i64 0,.int .i64 0,.int .i64 0,.string ⟨#[]⟩,.slice none 0 0,.slice none 0 0,.slice none 0 0] 41)).alloc (.cells #[.string ⟨#[42]⟩] 9):=⟨_,rfl⟩
 have R0:Rd 95 V B s st:=by rw [hV];exact (((h.alloc _).alloc _).alloc _).alloc _
 have G0:w.grownBy V (some B):=by
  rw [hV]
  exact grown_trans (grown_trans (grown_trans (grown_trans (World.grownBy.refl _ _) (World.grownBy_alloc _ _ none) (fun _ hk=>by cases hk)) (World.grownBy_alloc _ _ none) (fun _ hk=>by cases hk)) (World.grownBy_alloc _ _ none) (fun _ hk=>by cases hk)) (World.grownBy_alloc _ _ none) (fun _ hk=>by cases hk)
 have F1:V.heap[Z]?=some (.cells #[.pointer (some ⟨B,0,none⟩)] 123 (0,0)):=by
  rw [hV,hZ,Below.heap_alloc _ _ _ (by simp;omega),Below.heap_alloc _ _ _ (by simp;omega),Below.heap_alloc _ _ _ (by simp)];exact heap_alloc_new w _
 have F2:V.heap[Z+1]?=some (.cells #[.int .i64 d] 3 (0,0)):=by
  rw [hV,hZ,Below.heap_alloc _ _ _ (by simp),Below.heap_alloc _ _ _ (by simp)]
  have:=heap_alloc_new (w.alloc (.cells #[.pointer (some ⟨B,0,none⟩)] 123)) (.cells #[.int .i64 d] 3)
  simpa using this
 have FX:V.heap[Z+1+1]?=some (.cells #[.int .i64 0,.int .i64 0,.int .i64 0,.string ⟨#[]⟩,.slice none 0 0,.slice none 0 0,.slice none 0 0] 41 (0,0)):=by
  rw [hV,hZ,Below.heap_alloc _ _ _ (by simp)]
  have:=heap_alloc_new ((w.alloc (.cells #[.pointer (some ⟨B,0,none⟩)] 123)).alloc (.cells #[.int .i64 d] 3)) (.cells #[.int .i64 0,.int .i64 0,.int .i64 0,.string ⟨#[]⟩,.slice none 0 0,.slice none 0 0,.slice none 0 0] 41)
  simpa using this
 have SG:Seg V (some ⟨Z+1+1+1,0,none⟩) (wcells (slit [[42]])):=by
  have:=seg_words (w:=((w.alloc (.cells #[.pointer (some ⟨B,0,none⟩)] 123)).alloc (.cells #[.int .i64 d] 3)).alloc (.cells #[.int .i64 0,.int .i64 0,.int .i64 0,.string ⟨#[]⟩,.slice none 0 0,.slice none 0 0,.slice none 0 0] 41)) (cs:=#[.string ⟨#[42]⟩]) (t:=9) (l:=slit [[42]]) rfl
  rw [hV,hZ]
  simpa using this
 have hVs:V.heap.size=Z+1+1+1+1:=by rw [hV,hZ];simp
 have hbV:Below w0.heap.size w0 V:=hb0.grown G0 hb0.size (fun j hj=>by cases hj;exact hB0)
 have HC:=hide (tchain_of hf hmono [[42]] (by simp) (some ⟨Z+1+1+1,0,none⟩) 1 1 s st B Z (Z+1) w0 V R0 hs hn hv hbV hB0 (one_cell7 F1).1 (one_cell7 F2).1 (by omega) (by omega) SG rfl (by omega) (fun b off e=>by cases e;omega))
 have HF:=hide FX
 have HG:=hide G0
 have HV:=hide hV
 have HZ:=hide hZ
 have hXB:Z+1+1≠B:=by omega
 clear hV FX G0 R0 hbV hf hZ F1 F2 SG hmono
 go_enter Tryz.func106,Tryz.ntmps106
 go_wp2_with fail
 rw [← HV.out,← HZ.out]
 refine HC.out.mono ?_
 rintro e w1 ⟨⟨t,q,hx,rfl,hin,R1,hq⟩ | ⟨f,hf,rfl⟩,g⟩
 ·have HQ:=hide hx
  have G1:=grown_trans HG.out g (fun _ hk=>.inl hk)
  have FX1:=grown_block g HF.out hXB
  obtain ⟨x0,x1,x2,x3,x4,x5,x6⟩:=seven_cells FX1
  obtain ⟨u0,u1,u2,u3,u4,u5,u6⟩:=thaw7 FX1
  have HRF:=hide (put7_rd (t:=t) R1 (Ne.symm hXB))
  have HGF:=hide (put7_grown (t:=t) G1 (X:=Z+1+1) (by have:=HZ.out;omega))
  have HIN:=hide (ET.In.low (b':=w.heap.size) (by have:=HZ.out;omega) t (put7_in (t:=t) hin (X:=Z+1+1) (by omega)))
  clear hx hin R1 g G1 FX1 HC
  unfold eval
  unfold put7 at HRF HGF HIN
  go_wp2
  exact bodyPost_ret (v:=eval t) (by simp [eval,results,Tryz.results106,go_sem,x0,x1,x2,x3,x4,x5,x6]) rfl ⟨.inl ⟨t,q,HQ.out,rfl,HIN.out,HRF.out,hq⟩,HGF.out⟩
 ·have HE:=hide hf
  have G:=grown_trans HG.out g (fun _ hk=>.inl hk)
  clear hf
  go_wp2_with fail
  exact ⟨rfl,.inr ⟨f,HE.out,rfl⟩,G⟩
set_option maxHeartbeats 4000000 in
theorem sum_of {d:Int} {p:St→Except Flt (Ex×St)} (hf:Reads 106 d p) (hmono:∀ st x q,p st=.ok (x,q)→q.r.length≤st.r.length):Reads 62 d (chn p [[43],[45]]):=by
 intro s st B w0 w h hs hn hv hb0 hB0
 have hB:=h.lt
 obtain ⟨Z,hZ⟩:∃ Z,Z=w.heap.size:=⟨_,rfl⟩
 obtain ⟨V,hV⟩:∃ V,V=(((w.alloc (.cells #[.pointer (some ⟨B,0,none⟩)] 123)).alloc (.cells #[.int .i64 d] 3)).alloc (.cells #[.int .i64 0,.int .i64 0,.int .i64 0,.string ⟨#[]⟩,.slice none 0 0,.slice none 0 0,.slice none 0 0] 41)).alloc (.cells #[.string ⟨#[43]⟩,.string ⟨#[45]⟩] 9):=⟨_,rfl⟩
 have R0:Rd 95 V B s st:=by rw [hV];exact (((h.alloc _).alloc _).alloc _).alloc _
 have G0:w.grownBy V (some B):=by
  rw [hV]
  exact grown_trans (grown_trans (grown_trans (grown_trans (World.grownBy.refl _ _) (World.grownBy_alloc _ _ none) (fun _ hk=>by cases hk)) (World.grownBy_alloc _ _ none) (fun _ hk=>by cases hk)) (World.grownBy_alloc _ _ none) (fun _ hk=>by cases hk)) (World.grownBy_alloc _ _ none) (fun _ hk=>by cases hk)
 have F1:V.heap[Z]?=some (.cells #[.pointer (some ⟨B,0,none⟩)] 123 (0,0)):=by
  rw [hV,hZ,Below.heap_alloc _ _ _ (by simp;omega),Below.heap_alloc _ _ _ (by simp;omega),Below.heap_alloc _ _ _ (by simp)];exact heap_alloc_new w _
 have F2:V.heap[Z+1]?=some (.cells #[.int .i64 d] 3 (0,0)):=by
  rw [hV,hZ,Below.heap_alloc _ _ _ (by simp),Below.heap_alloc _ _ _ (by simp)]
  have:=heap_alloc_new (w.alloc (.cells #[.pointer (some ⟨B,0,none⟩)] 123)) (.cells #[.int .i64 d] 3)
  simpa using this
 have FX:V.heap[Z+1+1]?=some (.cells #[.int .i64 0,.int .i64 0,.int .i64 0,.string ⟨#[]⟩,.slice none 0 0,.slice none 0 0,.slice none 0 0] 41 (0,0)):=by
  rw [hV,hZ,Below.heap_alloc _ _ _ (by simp)]
  have:=heap_alloc_new ((w.alloc (.cells #[.pointer (some ⟨B,0,none⟩)] 123)).alloc (.cells #[.int .i64 d] 3)) (.cells #[.int .i64 0,.int .i64 0,.int .i64 0,.string ⟨#[]⟩,.slice none 0 0,.slice none 0 0,.slice none 0 0] 41)
  simpa using this
 have SG:Seg V (some ⟨Z+1+1+1,0,none⟩) (wcells (slit [[43],[45]])):=by
  have:=seg_words (w:=((w.alloc (.cells #[.pointer (some ⟨B,0,none⟩)] 123)).alloc (.cells #[.int .i64 d] 3)).alloc (.cells #[.int .i64 0,.int .i64 0,.int .i64 0,.string ⟨#[]⟩,.slice none 0 0,.slice none 0 0,.slice none 0 0] 41)) (cs:=#[.string ⟨#[43]⟩,.string ⟨#[45]⟩]) (t:=9) (l:=slit [[43],[45]]) rfl
  rw [hV,hZ]
  simpa using this
 have hVs:V.heap.size=Z+1+1+1+1:=by rw [hV,hZ];simp
 have hbV:Below w0.heap.size w0 V:=hb0.grown G0 hb0.size (fun j hj=>by cases hj;exact hB0)
 have HC:=hide (schain_of hf hmono [[43],[45]] (by simp) (some ⟨Z+1+1+1,0,none⟩) 2 2 s st B Z (Z+1) w0 V R0 hs hn hv hbV hB0 (one_cell7 F1).1 (one_cell7 F2).1 (by omega) (by omega) SG rfl (by omega) (fun b off e=>by cases e;omega))
 have HF:=hide FX
 have HG:=hide G0
 have HV:=hide hV
 have HZ:=hide hZ
 have hXB:Z+1+1≠B:=by omega
 clear hV FX G0 R0 hbV hf hZ F1 F2 SG hmono
 go_enter Tryz.func62,Tryz.ntmps62
 go_wp2_with fail
 rw [← HV.out,← HZ.out]
 refine HC.out.mono ?_
 rintro e w1 ⟨⟨t,q,hx,rfl,hin,R1,hq⟩ | ⟨f,hf,rfl⟩,g⟩
 ·have HQ:=hide hx
  have G1:=grown_trans HG.out g (fun _ hk=>.inl hk)
  have FX1:=grown_block g HF.out hXB
  obtain ⟨x0,x1,x2,x3,x4,x5,x6⟩:=seven_cells FX1
  obtain ⟨u0,u1,u2,u3,u4,u5,u6⟩:=thaw7 FX1
  have HRF:=hide (put7_rd (t:=t) R1 (Ne.symm hXB))
  have HGF:=hide (put7_grown (t:=t) G1 (X:=Z+1+1) (by have:=HZ.out;omega))
  have HIN:=hide (ET.In.low (b':=w.heap.size) (by have:=HZ.out;omega) t (put7_in (t:=t) hin (X:=Z+1+1) (by omega)))
  clear hx hin R1 g G1 FX1 HC
  unfold eval
  unfold put7 at HRF HGF HIN
  go_wp2
  exact bodyPost_ret (v:=eval t) (by simp [eval,results,Tryz.results62,go_sem,x0,x1,x2,x3,x4,x5,x6]) rfl ⟨.inl ⟨t,q,HQ.out,rfl,HIN.out,HRF.out,hq⟩,HGF.out⟩
 ·have HE:=hide hf
  have G:=grown_trans HG.out g (fun _ hk=>.inl hk)
  clear hf
  go_wp2_with fail
  exact ⟨rfl,.inr ⟨f,HE.out,rfl⟩,G⟩
end Go.Proofs.YtoldmigappbjcaaGreatDoor
namespace Go.GrainU
open Go.RowKit
theorem own_wlen {w:World} {base e N:Nat} {v:Value} {l:List ByteArray} (h:w.ownsRow base e 1 v N (wcells l)):N=l.length:=by
 have:=h.1;simp [wcells] at this;omega
theorem one_seg {b Z:Nat} {v:World} {t:ET} {ty:TypeId} (h:v.heap[Z]?=some (.cells #[.int .i64 t.hd.kind,.int .i64 t.hd.n,.int .i64 t.hd.range,.string t.hd.word,.slice t.sp.ma t.hd.ms.length t.sp.mc,.slice t.sp.ba t.hd.bs.length t.sp.bc,.slice t.sp.ka t.kids.length t.sp.kc] ty (0,0))) (hb:b≤Z):Seg (cut b v) (some ⟨Z,0,none⟩) (ecells [t]):=by
 obtain ⟨c0,c1,c2,c3,c4,c5,c6⟩:=seven_cells h
 refine .inr ⟨Z,0,rfl,fun j hj=>?_⟩
 rw [cut_cell hb]
 simp only [ecells,ecell,List.append_nil,List.length_cons,List.length_nil] at hj ⊢
 match j,hj with
 | 0,_=>exact c0
 | 1,_=>exact c1
 | 2,_=>exact c2
 | 3,_=>exact c3
 | 4,_=>exact c4
 | 5,_=>exact c5
 | 6,_=>exact c6
 | j+7,hj=>exact absurd hj (by omega)
theorem own_put7 {w:World} {base e size n X:Nat} {v:Value} {xs:List Value} {t:ET} (h:w.ownsRow base e size v n xs) (hX:X<base):(put7 w X t).ownsRow base e size v n xs:=by
 unfold put7
 exact rown_far (rown_far (rown_far (rown_far (rown_far (rown_far (rown_far h hX) hX) hX) hX) hX) hX) hX
end Go.GrainU
namespace Go.Proofs.YtoldmigappbjcaaGreatDoor
open Go.RowKit Go.GrainU
theorem ptotals_new (w:World):Calls Tryz.prog 202 #[] w fun e w'=>e=.returned (.slice (some ⟨w.heap.size,0,none⟩) 4 4)∧w'=w.alloc (.cells #[.string ⟨#[99,111,117,110,116]⟩,.string ⟨#[109,97,120]⟩,.string ⟨#[109,105,110]⟩,.string ⟨#[115,117,109]⟩] 9):=by
 go_enter Tryz.func202,Tryz.ntmps202
 go_wp2
 go_ret
 exact ⟨rfl,rfl⟩
set_option maxHeartbeats 8000000 in
theorem all_of {d:Int} {sub:St→Except Flt (Ex×St)} (hd0:0≤d) (hd1:d≤100) (hsub:Reads 62 (d+1) sub) (s:ByteArray) (st:St) (B:Nat) (w0 w:World) (h:Rd 95 w B s st) (hs:s.size≤2000) (hn:st.n≤100) (hv:ErrV w0) (hb0:Below w0.heap.size w0 w) (hB0:w0.heap.size≤B) :
  Calls Tryz.prog 190 #[.pointer (some ⟨B,0,none⟩),.int .i64 d] w (EPost s B w (al sub st)):=by
 have hB:=h.lt
 obtain ⟨X,hX⟩:∃ X,X=w.heap.size:=⟨_,rfl⟩
 obtain ⟨U,hU⟩:∃ U,U=(w.alloc (.cells #[.int .i64 0,.int .i64 0,.int .i64 0,.string ⟨#[]⟩,.slice none 0 0,.slice none 0 0,.slice none 0 0] 41)).alloc (.cells #[.string ⟨#[99,111,117,110,116]⟩,.string ⟨#[109,97,120]⟩,.string ⟨#[109,105,110]⟩,.string ⟨#[115,117,109]⟩] 9):=⟨_,rfl⟩
 have R0:Rd 95 U B s st:=by rw [hU];exact (h.alloc _).alloc _
 have G0:w.grownBy U (some B):=by rw [hU];exact grown_trans (grown_trans (World.grownBy.refl _ _) (World.grownBy_alloc _ _ none) (fun _ hk=>by cases hk)) (World.grownBy_alloc _ _ none) (fun _ hk=>by cases hk)
 have FX0:U.heap[X]?=some (.cells #[.int .i64 0,.int .i64 0,.int .i64 0,.string ⟨#[]⟩,.slice none 0 0,.slice none 0 0,.slice none 0 0] 41 (0,0)):=by
  rw [hU,hX,Below.heap_alloc _ _ _ (by simp)];exact heap_alloc_new w _
 have SG:Seg U (some ⟨X+1,0,none⟩) (wcells totals4):=by
  have:=seg_words (w:=w.alloc (.cells #[.int .i64 0,.int .i64 0,.int .i64 0,.string ⟨#[]⟩,.slice none 0 0,.slice none 0 0,.slice none 0 0] 41)) (cs:=#[.string ⟨#[99,111,117,110,116]⟩,.string ⟨#[109,97,120]⟩,.string ⟨#[109,105,110]⟩,.string ⟨#[115,117,109]⟩]) (t:=9) (l:=totals4) rfl
  rw [hU,hX];simpa using this
 have hXB:X≠B:=by omega
 have hXw:w.heap.size≤X:=by omega
 have HWO:=hide (wordOf_any totals4 (some ⟨X+1,0,none⟩) 4 4 s st B U R0 hs SG rfl (by omega) (fun b off e=>by cases e;omega))
 have HU:=hide hU
 have HX:=hide hX
 have HEV:=hide hv
 have HB0:=hide hb0
 have HSUB:=hide hsub
 clear hU hX h hv hb0 SG R0 hsub
 go_enter Tryz.func190,Tryz.ntmps190
 go_wp2_with fail
 refine (ptotals_new _).mono ?_
 intro e w1 hh
 rw [hh.1,hh.2]
 clear hh
 simp only [World.size_alloc]
 go_wp2_with fail
 rw [← HU.out,← HX.out]
 refine HWO.out.mono ?_
 rintro e w1 ⟨⟨x,r1,hx,rfl,R1⟩ | ⟨f,hf,rfl⟩,g⟩
 rotate_left
 ·have HE:Hid (al sub st=.error f):=by show _=_;simp only [al,hf]
  have G:=grown_trans G0 g (fun _ hk=>.inl hk)
  clear hf
  go_wp2_with fail
  exact ⟨rfl,.inr ⟨_,HE.out,rfl⟩,G⟩
 have Q0:=hide hx
 have hxl:x.length≤12:=by
  unfold wrdOf at hx
  split at hx
  ·cases hx
  ·rename_i p hp
   split at hx
   ·injection hx with hx;rw [hx] at hp;exact wrd_len hp
   ·cases hx
 have G1:=grown_trans G0 g (fun _ hk=>.inl hk)
 have FX1:=grown_block g FX0 hXB
 obtain ⟨Y,hY⟩:∃ Y,Y=w1.heap.size:=⟨_,rfl⟩
 have hXY:X<Y:=by rw [hY];exact lt_of_block FX1
 have hBY:B<Y:=by rw [hY];exact R1.lt
 obtain ⟨w2,hw2⟩:∃ v,v=w1.alloc (.cells #[.int .i64 3,.int .i64 0,.int .i64 0,.string (lit x),.slice none 0 0,.slice none 0 0,.slice none 0 0] 41):=⟨_,rfl⟩
 have R2:Rd 95 w2 B s ⟨r1,st.n⟩:=by rw [hw2];exact R1.alloc _
 have G2:w.grownBy w2 (some B):=by rw [hw2];exact grown_trans G1 (World.grownBy_alloc _ _ none) (fun _ hk=>by cases hk)
 have FX2:w2.heap[X]?=some (.cells #[.int .i64 0,.int .i64 0,.int .i64 0,.string ⟨#[]⟩,.slice none 0 0,.slice none 0 0,.slice none 0 0] 41 (0,0)):=by rw [hw2,Below.heap_alloc _ _ _ (by omega)];exact FX1
 have FY2:w2.heap[Y]?=some (.cells #[.int .i64 3,.int .i64 0,.int .i64 0,.string (lit x),.slice none 0 0,.slice none 0 0,.slice none 0 0] 41 (0,0)):=by rw [hw2,hY];exact heap_alloc_new w1 _
 have hYB:Y≠B:=by omega
 have HW2:=hide hw2
 have HY:=hide hY
 clear hw2 hY hx g G0 FX0 G1 FX1 R1 HWO
 go_wp2_with fail
 rw [← HW2.out,← HY.out]
 have A2:=hide (accept_any [40] s ⟨r1,st.n⟩ B w2 R2 hs)
 unfold lit at A2
 go_wp2_with fail
 cases ha:acc [40] r1 with
 | some r2 =>
  have QB:Hid (alB r1=.ok ([],r2)):=by show _=_;simp only [alB,ha]
  rw [ha] at A2
  simp only [Option.getD_some,Option.isSome_some] at A2
  clear ha
  refine A2.out.mono ?_
  rintro e w3 ⟨rfl,R3,g⟩
  clear A2
  have G3:=grown_trans G2 g (fun _ hk=>.inl hk)
  have FX3:=grown_block g FX2 hXB
  have FY3:=grown_block g FY2 hYB
  clear g G2 FX2 FY2 R2
  have hYp:Y<w3.heap.size:=lt_of_block FY3
  obtain ⟨S,hS⟩:∃ S,S=w3.heap.size:=⟨_,rfl⟩
  have hYS:Y<S:=by omega
  have hXS:X<S:=by omega
  have hBS:B<S:=by omega
  have hwS:w.heap.size≤S:=by omega
  have HSC:=hide (HSUB.out s ⟨r2,st.n⟩ B w0 w3 R3 hs hn HEV.out (HB0.out.grown G3 HB0.out.size (fun j hj=>by cases hj;exact hB0)) hB0)
  unfold EPost at HSC;rw [← hS] at HSC
  have HS:=hide hS
  clear hS hYp
  go_wp2_with fail
  refine HSC.out.mono ?_
  rintro e w8 ⟨⟨t,q,hx,rfl,IN8,R8,hq⟩ | ⟨f,hf,rfl⟩,g⟩
  rotate_left
  ·have HE:Hid (al sub st=.error f):=by show _=_;simp only [al,Q0.out,QB.out,hf]
   have G:=grown_trans G3 g (fun _ hk=>.inl hk)
   clear hf
   go_wp2_with fail
   exact ⟨rfl,.inr ⟨_,HE.out,rfl⟩,G⟩
  have QS:=hide hx
  have hS8:S≤w8.heap.size:=by have:=g.size;have:=HS.out;omega
  clear hx HSC
  have G8:=grown_trans G3 g (fun _ hk=>.inl hk)
  have FX8:=grown_block g FX3 hXB
  have FY8:=grown_block g FY3 hYB
  clear g G3 FX3 FY3 R3
  obtain ⟨Z,hZ⟩:∃ Z,Z=w8.heap.size:=⟨_,rfl⟩
  have hSZ:S≤Z:=by omega
  have hZB:Z≠B:=by omega
  obtain ⟨w9,hw9⟩:∃ v,v=w8.alloc (.cells #[.int .i64 t.hd.kind,.int .i64 t.hd.n,.int .i64 t.hd.range,.string t.hd.word,.slice t.sp.ma t.hd.ms.length t.sp.mc,.slice t.sp.ba t.hd.bs.length t.sp.bc,.slice t.sp.ka t.kids.length t.sp.kc] 41):=⟨_,rfl⟩
  have R9:Rd 95 w9 B s q:=by rw [hw9];exact R8.alloc _
  have G9:w.grownBy w9 (some B):=by rw [hw9];exact grown_trans G8 (World.grownBy_alloc _ _ none) (fun _ hk=>by cases hk)
  have FX9:w9.heap[X]?=some (.cells #[.int .i64 0,.int .i64 0,.int .i64 0,.string ⟨#[]⟩,.slice none 0 0,.slice none 0 0,.slice none 0 0] 41 (0,0)):=by rw [hw9,Below.heap_alloc _ _ _ (by omega)];exact FX8
  have FY9:w9.heap[Y]?=some (.cells #[.int .i64 3,.int .i64 0,.int .i64 0,.string (lit x),.slice none 0 0,.slice none 0 0,.slice none 0 0] 41 (0,0)):=by rw [hw9,Below.heap_alloc _ _ _ (by omega)];exact FY8
  have FZ9:w9.heap[Z]?=some (.cells #[.int .i64 t.hd.kind,.int .i64 t.hd.n,.int .i64 t.hd.range,.string t.hd.word,.slice t.sp.ma t.hd.ms.length t.sp.mc,.slice t.sp.ba t.hd.bs.length t.sp.bc,.slice t.sp.ka t.kids.length t.sp.kc] 41 (0,0)):=by rw [hw9,hZ];exact heap_alloc_new w8 _
  have IN9:t.In (cut S w9):=by rw [hw9];exact IN8.grown (B:=B) (grown_trans (World.grownBy.refl _ _) (World.grownBy_alloc _ _ none) (fun _ hk=>by cases hk)) hBS
  have FY9':=FY9
  rw [hw9] at FY9'
  obtain ⟨y0,y1,y2,y3,y4,y5,y6⟩:=seven_cells FY9'
  obtain ⟨u0,u1,u2,u3,u4,u5,u6⟩:=thaw7 FY9'
  clear FY9'
  obtain ⟨w10,hw10⟩:∃ v,v=w9.setCell ⟨Y,6,none⟩ (.slice (some ⟨Z,0,none⟩) 1 1):=⟨_,rfl⟩
  have R10:Rd 95 w10 B s q:=by rw [hw10];exact R9.far (Ne.symm hYB)
  have G10:w.grownBy w10 (some B):=by rw [hw10];exact grown_far G9 (by omega)
  have FX10:w10.heap[X]?=some (.cells #[.int .i64 0,.int .i64 0,.int .i64 0,.string ⟨#[]⟩,.slice none 0 0,.slice none 0 0,.slice none 0 0] 41 (0,0)):=by rw [hw10,setCell_far (by omega)];exact FX9
  have FY10:w10.heap[Y]?=some (.cells #[.int .i64 3,.int .i64 0,.int .i64 0,.string (lit x),.slice none 0 0,.slice none 0 0,.slice (some ⟨Z,0,none⟩) 1 1] 41 (0,0)):=by rw [hw10];exact (set7 FY9 (.slice (some ⟨Z,0,none⟩) 1 1)).2.2.2
  have FZ10:w10.heap[Z]?=some (.cells #[.int .i64 t.hd.kind,.int .i64 t.hd.n,.int .i64 t.hd.range,.string t.hd.word,.slice t.sp.ma t.hd.ms.length t.sp.mc,.slice t.sp.ba t.hd.bs.length t.sp.bc,.slice t.sp.ka t.kids.length t.sp.kc] 41 (0,0)):=by rw [hw10,setCell_far (by omega)];exact FZ9
  have IN10:t.In (cut S w10):=by rw [hw10];exact IN9.far hYS
  have HW9:=hide hw9
  have HW10:=hide hw10
  have HZ:=hide hZ
  clear hw9 hw10 hZ R8 R9 G8 G9 FX8 FX9 FY8 FY9 FZ9 IN8 IN9
  unfold eval
  go_wp2_with fail
  rw [← HW9.out,← HZ.out,← HW10.out]
  clear y0 y1 y2 y3 y4 y5 y6 u0 u1 u2 u3 u4 u5 u6
  have E11:=hide (expect_any [41] s q B w10 R10 hs)
  unfold lit at E11
  refine E11.out.mono ?_
  rintro e w11 ⟨⟨r11,hx,rfl,R11⟩ | ⟨f,hf,rfl⟩,g⟩
  rotate_left
  ·have HE:Hid (al sub st=.error f):=by show _=_;simp only [al,Q0.out,QB.out,QS.out,hf]
   have G:=grown_trans G10 g (fun _ hk=>.inl hk)
   clear hf
   go_wp2_with fail
   exact ⟨rfl,.inr ⟨_,HE.out,rfl⟩,G⟩
  have Q11:=hide hx
  clear hx E11
  have G11:=grown_trans G10 g (fun _ hk=>.inl hk)
  have FX11:=grown_block g FX10 hXB
  have FY11:=grown_block g FY10 hYB
  have FZ11:=grown_block g FZ10 hZB
  have IN11:=IN10.grown g hBS
  clear g G10 FX10 FY10 R10 FZ10 IN10
  obtain ⟨y0,y1,y2,y3,y4,y5,y6⟩:=seven_cells FY11
  obtain ⟨tt,htt⟩:∃ tt:ET,tt=.node ⟨3,0,0,lit x,[],[]⟩ ⟨none,0,none,0,some ⟨Z,0,none⟩,1⟩ [t]:=⟨_,rfl⟩
  have HEND:=hide (ended_any tt s ⟨r11,q.n⟩ B w11 R11 (by simp only;omega))
  have hev:eval tt=.agg #[.int .i64 3,.int .i64 0,.int .i64 0,.string (lit x),.slice none 0 0,.slice none 0 0,.slice (some ⟨Z,0,none⟩) 1 1]:=by rw [htt];rfl
  have hex:tt.ex=.mk ⟨3,0,0,lit x,[],[]⟩ [t.ex]:=by rw [htt];simp [ET.ex,exL]
  have HFIN:Hid (al sub st=fin tt.ex ⟨r11,q.n⟩):=by show _=_;rw [hex];simp only [al,Q0.out,QB.out,QS.out,Q11.out]
  have HIN:Hid (∀ v:World,t.In (cut S v)→v.heap[Z]?=some (.cells #[.int .i64 t.hd.kind,.int .i64 t.hd.n,.int .i64 t.hd.range,.string t.hd.word,.slice t.sp.ma t.hd.ms.length t.sp.mc,.slice t.sp.ba t.hd.bs.length t.sp.bc,.slice t.sp.ka t.kids.length t.sp.kc] 41 (0,0))→tt.In (cut w.heap.size v)):=by
   intro v hin fz
   rw [htt]
   simp only [ET.In]
   exact ⟨⟨.inl rfl,.inl rfl,one_seg fz (by omega)⟩,⟨by simp,by simp,by simp,by show (lit x).size≤_;rw [lit_size];omega,fun m hm=>by (cases hm),fun b hb=>by (cases hb),Nat.le_refl _,fun m hm=>by (cases hm)⟩,by simp only [InL];exact ⟨ET.In.low hwS t hin,trivial⟩⟩
  rw [hev] at HEND
  clear htt hex
  go_wp2_with fail
  refine HEND.out.mono ?_
  rintro e w12 ⟨⟨hx,rfl,R12⟩ | ⟨hf,rfl⟩,g⟩
  ·have HE:Hid (al sub st=.ok (tt.ex,⟨r11,q.n+1⟩)):=by show _=_;rw [HFIN.out,hx]
   have hq1:q.n+1≤100:=(fin_ok hx).2.2
   have G12:=grown_trans G11 g (fun _ hk=>.inl hk)
   have FX12:=grown_block g FX11 hXB
   have FZ12:=grown_block g FZ11 hZB
   have IN12:=IN11.grown g hBS
   obtain ⟨z0,z1,z2,z3,z4,z5,z6⟩:=seven_cells FX12
   obtain ⟨u0,u1,u2,u3,u4,u5,u6⟩:=thaw7 FX12
   have HRF:=hide (put7_rd (t:=tt) R12 (Ne.symm hXB))
   have HGF:=hide (put7_grown (t:=tt) G12 (X:=X) hXw)
   have HINF:=hide (HIN.out (put7 w12 X tt) (put7_in IN12 hXS) ((put7_far (by omega)).trans FZ12))
   have hput:put7 w12 X tt=(((((((w12.setCell ⟨X,0,none⟩ (.int .i64 3)).setCell ⟨X,1,none⟩ (.int .i64 0)).setCell ⟨X,2,none⟩ (.int .i64 0)).setCell ⟨X,3,none⟩ (.string (lit x))).setCell ⟨X,4,none⟩ (.slice none 0 0)).setCell ⟨X,5,none⟩ (.slice none 0 0)).setCell ⟨X,6,none⟩ (.slice (some ⟨Z,0,none⟩) 1 1)):=by
    have h7:=hev
    unfold eval at h7
    simp only [Value.agg.injEq,Array.mk.injEq,List.cons.injEq,and_true] at h7
    obtain ⟨e0,e1,e2,e3,e4,e5,e6⟩:=h7
    unfold put7
    rw [e0,e1,e2,e3,e4,e5,e6]
   rw [hput] at HRF HGF HINF
   clear hx g G12 FX12 R12 HIN HFIN HEND hput
   go_wp2
   exact bodyPost_ret (v:=.agg #[.int .i64 3,.int .i64 0,.int .i64 0,.string (lit x),.slice none 0 0,.slice none 0 0,.slice (some ⟨Z,0,none⟩) 1 1]) (by simp [results,Tryz.results190,go_sem,z0,z1,z2,z3,z4,z5,z6]) rfl ⟨.inl ⟨tt,_,HE.out,by rw [hev],HINF.out,HRF.out,hq1⟩,HGF.out⟩
  ·have HE:Hid (al sub st=.error (4,r11.length)):=by show _=_;rw [HFIN.out,hf]
   have G:=grown_trans G11 g (fun _ hk=>.inl hk)
   clear hf
   go_wp2_with fail
   exact ⟨rfl,.inr ⟨_,HE.out,rfl⟩,G⟩
 | none =>
  have HA:=hide ha
  rw [ha] at A2
  simp only [Option.getD_none,Option.isSome_none] at A2
  clear ha
  refine A2.out.mono ?_
  rintro e w3 ⟨rfl,R3,g⟩
  clear A2
  have G3:=grown_trans G2 g (fun _ hk=>.inl hk)
  have FX3:=grown_block g FX2 hXB
  have FY3:=grown_block g FY2 hYB
  clear g G2 FX2 FY2 R2
  go_wp2_with fail
  refine (by_any s ⟨r1,st.n⟩ B w3 R3 hs).mono ?_
  rintro e w4 ⟨⟨r4,hx,rfl,R4⟩ | ⟨f,hf,rfl⟩,g⟩
  rotate_left
  ·have HE:Hid (al sub st=.error f):=by show _=_;simp only [al,Q0.out,alB,HA.out,hf]
   have G:=grown_trans G3 g (fun _ hk=>.inl hk)
   clear hf
   go_wp2_with fail
   exact ⟨rfl,.inr ⟨_,HE.out,rfl⟩,G⟩
  have QY:=hide hx
  clear hx
  have G4:=grown_trans G3 g (fun _ hk=>.inl hk)
  have FX4:=grown_block g FX3 hXB
  have FY4:=grown_block g FY3 hYB
  clear g G3 FX3 FY3 R3
  have hY4:Y<w4.heap.size:=lt_of_block FY4
  obtain ⟨OB,hOBe⟩:∃ OB,OB=w4.heap.size:=⟨_,rfl⟩
  have hOB:B<OB:=by rw [hOBe];exact R4.lt
  have hYO:Y<OB:=by rw [hOBe];exact hY4
  have hXO:X<OB:=by omega
  have hwO:w.heap.size≤OB:=by omega
  have HL:=hide (listw_any s ⟨r4,st.n⟩ B w4 R4 hs)
  rw [← hOBe] at HL
  have HOBe:=hide hOBe
  clear hOBe hY4
  go_wp2_with fail
  refine HL.out.mono ?_
  rintro e w5 ⟨⟨bs,r5,co,N,c,hx,rfl,OW5,R5⟩ | ⟨f,hf,rfl⟩,g⟩
  rotate_left
  ·have HE:Hid (al sub st=.error f):=by show _=_;simp only [al,Q0.out,alB,HA.out,QY.out,hf]
   have G:=grown_trans G4 g (fun _ hk=>.inl hk)
   clear hf
   go_wp2_with fail
   exact ⟨rfl,.inr ⟨_,HE.out,rfl⟩,G⟩
  have QL:=hide hx
  have HLN:=hide (own_wlen OW5)
  obtain ⟨fit,hlen⟩:=lst_fit (Q:=fun b:ByteArray=>b.size≤12) (fun _ _ _ hh=>by
   unfold words1 at hh
   split at hh
   ·cases hh
   ·rename_i wd r1 hw
    simp only [Except.ok.injEq,Prod.mk.injEq] at hh
    rw [← hh.1,lit_size]
    exact wrd_len hw) hx
  have HFIT:=hide fit
  have hN6:N≤5:=by rw [HLN.out];exact hlen
  clear hx HL fit hlen
  have G5:=grown_trans G4 g (fun _ hk=>.inl hk)
  have FX5:=grown_block g FX4 hXB
  have FY5:=grown_block g FY4 hYB
  clear g G4 FX4 FY4 R4
  obtain ⟨y0,y1,y2,y3,y4,y5,y6⟩:=seven_cells FY5
  obtain ⟨u0,u1,u2,u3,u4,u5,u6⟩:=thaw7 FY5
  obtain ⟨w6,hw6⟩:∃ v,v=w5.setCell ⟨Y,5,none⟩ (.slice co N c):=⟨_,rfl⟩
  have R6:Rd 95 w6 B s ⟨r5,st.n⟩:=by rw [hw6];exact R5.far (Ne.symm hYB)
  have G6:w.grownBy w6 (some B):=by rw [hw6];exact grown_far G5 (by omega)
  have FX6:w6.heap[X]?=some (.cells #[.int .i64 0,.int .i64 0,.int .i64 0,.string ⟨#[]⟩,.slice none 0 0,.slice none 0 0,.slice none 0 0] 41 (0,0)):=by rw [hw6,setCell_far (by omega)];exact FX5
  have FY6:w6.heap[Y]?=some (.cells #[.int .i64 3,.int .i64 0,.int .i64 0,.string (lit x),.slice none 0 0,.slice co N c,.slice none 0 0] 41 (0,0)):=by rw [hw6];exact (set7 FY5 (.slice co N c)).2.2.1
  have OW6:w6.ownsRow OB 9 1 (.slice co N c) N (wcells bs):=by rw [hw6];exact rown_far OW5 hYO
  have HW6:=hide hw6
  clear hw6 G5 FX5 FY5 R5 OW5
  go_wp2_with fail
  rw [← HW6.out]
  clear y0 y1 y2 y3 y4 y5 y6 u0 u1 u2 u3 u4 u5 u6
  have E7:=hide (expect_any [40] s ⟨r5,st.n⟩ B w6 R6 hs)
  unfold lit at E7
  refine E7.out.mono ?_
  rintro e w7 ⟨⟨r2,hx,rfl,R7⟩ | ⟨f,hf,rfl⟩,g⟩
  rotate_left
  ·have HE:Hid (al sub st=.error f):=by show _=_;simp only [al,Q0.out,alB,HA.out,QY.out,QL.out,hf]
   have G:=grown_trans G6 g (fun _ hk=>.inl hk)
   clear hf
   go_wp2_with fail
   exact ⟨rfl,.inr ⟨_,HE.out,rfl⟩,G⟩
  have Q7:=hide hx
  have QB:Hid (alB r1=.ok (bs,r2)):=by show _=_;simp only [alB,HA.out,QY.out,QL.out,Q7.out]
  clear hx E7
  have G7:=grown_trans G6 g (fun _ hk=>.inl hk)
  have FX7:=grown_block g FX6 hXB
  have FY7:=grown_block g FY6 hYB
  have OW7:=own_grown OW6 g hOB
  clear g G6 FX6 FY6 R6 OW6
  have hYp:Y<w7.heap.size:=lt_of_block FY7
  obtain ⟨S,hS⟩:∃ S,S=w7.heap.size:=⟨_,rfl⟩
  have hYS:Y<S:=by omega
  have hXS:X<S:=by omega
  have hBS:B<S:=by omega
  have hwS:w.heap.size≤S:=by omega
  have HSC:=hide (HSUB.out s ⟨r2,st.n⟩ B w0 w7 R7 hs hn HEV.out (HB0.out.grown G7 HB0.out.size (fun j hj=>by cases hj;exact hB0)) hB0)
  unfold EPost at HSC;rw [← hS] at HSC
  have HS:=hide hS
  clear hS hYp
  go_wp2_with fail
  refine HSC.out.mono ?_
  rintro e w8 ⟨⟨t,q,hx,rfl,IN8,R8,hq⟩ | ⟨f,hf,rfl⟩,g⟩
  rotate_left
  ·have HE:Hid (al sub st=.error f):=by show _=_;simp only [al,Q0.out,QB.out,hf]
   have G:=grown_trans G7 g (fun _ hk=>.inl hk)
   clear hf
   go_wp2_with fail
   exact ⟨rfl,.inr ⟨_,HE.out,rfl⟩,G⟩
  have QS:=hide hx
  have hS8:S≤w8.heap.size:=by have:=g.size;have:=HS.out;omega
  clear hx HSC
  have G8:=grown_trans G7 g (fun _ hk=>.inl hk)
  have FX8:=grown_block g FX7 hXB
  have FY8:=grown_block g FY7 hYB
  have OW8:=own_grown OW7 g hOB
  clear g G7 FX7 FY7 R7 OW7
  obtain ⟨Z,hZ⟩:∃ Z,Z=w8.heap.size:=⟨_,rfl⟩
  have hSZ:S≤Z:=by omega
  have hZB:Z≠B:=by omega
  obtain ⟨w9,hw9⟩:∃ v,v=w8.alloc (.cells #[.int .i64 t.hd.kind,.int .i64 t.hd.n,.int .i64 t.hd.range,.string t.hd.word,.slice t.sp.ma t.hd.ms.length t.sp.mc,.slice t.sp.ba t.hd.bs.length t.sp.bc,.slice t.sp.ka t.kids.length t.sp.kc] 41):=⟨_,rfl⟩
  have R9:Rd 95 w9 B s q:=by rw [hw9];exact R8.alloc _
  have G9:w.grownBy w9 (some B):=by rw [hw9];exact grown_trans G8 (World.grownBy_alloc _ _ none) (fun _ hk=>by cases hk)
  have FX9:w9.heap[X]?=some (.cells #[.int .i64 0,.int .i64 0,.int .i64 0,.string ⟨#[]⟩,.slice none 0 0,.slice none 0 0,.slice none 0 0] 41 (0,0)):=by rw [hw9,Below.heap_alloc _ _ _ (by omega)];exact FX8
  have FY9:w9.heap[Y]?=some (.cells #[.int .i64 3,.int .i64 0,.int .i64 0,.string (lit x),.slice none 0 0,.slice co N c,.slice none 0 0] 41 (0,0)):=by rw [hw9,Below.heap_alloc _ _ _ (by omega)];exact FY8
  have FZ9:w9.heap[Z]?=some (.cells #[.int .i64 t.hd.kind,.int .i64 t.hd.n,.int .i64 t.hd.range,.string t.hd.word,.slice t.sp.ma t.hd.ms.length t.sp.mc,.slice t.sp.ba t.hd.bs.length t.sp.bc,.slice t.sp.ka t.kids.length t.sp.kc] 41 (0,0)):=by rw [hw9,hZ];exact heap_alloc_new w8 _
  have IN9:t.In (cut S w9):=by rw [hw9];exact IN8.grown (B:=B) (grown_trans (World.grownBy.refl _ _) (World.grownBy_alloc _ _ none) (fun _ hk=>by cases hk)) hBS
  have OW9:w9.ownsRow OB 9 1 (.slice co N c) N (wcells bs):=by rw [hw9];exact OW8.alloc _
  have FY9':=FY9
  rw [hw9] at FY9'
  obtain ⟨y0,y1,y2,y3,y4,y5,y6⟩:=seven_cells FY9'
  obtain ⟨u0,u1,u2,u3,u4,u5,u6⟩:=thaw7 FY9'
  clear FY9'
  obtain ⟨w10,hw10⟩:∃ v,v=w9.setCell ⟨Y,6,none⟩ (.slice (some ⟨Z,0,none⟩) 1 1):=⟨_,rfl⟩
  have R10:Rd 95 w10 B s q:=by rw [hw10];exact R9.far (Ne.symm hYB)
  have G10:w.grownBy w10 (some B):=by rw [hw10];exact grown_far G9 (by omega)
  have FX10:w10.heap[X]?=some (.cells #[.int .i64 0,.int .i64 0,.int .i64 0,.string ⟨#[]⟩,.slice none 0 0,.slice none 0 0,.slice none 0 0] 41 (0,0)):=by rw [hw10,setCell_far (by omega)];exact FX9
  have FY10:w10.heap[Y]?=some (.cells #[.int .i64 3,.int .i64 0,.int .i64 0,.string (lit x),.slice none 0 0,.slice co N c,.slice (some ⟨Z,0,none⟩) 1 1] 41 (0,0)):=by rw [hw10];exact (set7 FY9 (.slice (some ⟨Z,0,none⟩) 1 1)).2.2.2
  have FZ10:w10.heap[Z]?=some (.cells #[.int .i64 t.hd.kind,.int .i64 t.hd.n,.int .i64 t.hd.range,.string t.hd.word,.slice t.sp.ma t.hd.ms.length t.sp.mc,.slice t.sp.ba t.hd.bs.length t.sp.bc,.slice t.sp.ka t.kids.length t.sp.kc] 41 (0,0)):=by rw [hw10,setCell_far (by omega)];exact FZ9
  have IN10:t.In (cut S w10):=by rw [hw10];exact IN9.far hYS
  have OW10:w10.ownsRow OB 9 1 (.slice co N c) N (wcells bs):=by rw [hw10];exact rown_far OW9 hYO
  have HW9:=hide hw9
  have HW10:=hide hw10
  have HZ:=hide hZ
  clear hw9 hw10 hZ R8 R9 G8 G9 FX8 FX9 FY8 FY9 FZ9 IN8 IN9 OW8 OW9
  unfold eval
  go_wp2_with fail
  rw [← HW9.out,← HZ.out,← HW10.out]
  clear y0 y1 y2 y3 y4 y5 y6 u0 u1 u2 u3 u4 u5 u6
  have E11:=hide (expect_any [41] s q B w10 R10 hs)
  unfold lit at E11
  refine E11.out.mono ?_
  rintro e w11 ⟨⟨r11,hx,rfl,R11⟩ | ⟨f,hf,rfl⟩,g⟩
  rotate_left
  ·have HE:Hid (al sub st=.error f):=by show _=_;simp only [al,Q0.out,QB.out,QS.out,hf]
   have G:=grown_trans G10 g (fun _ hk=>.inl hk)
   clear hf
   go_wp2_with fail
   exact ⟨rfl,.inr ⟨_,HE.out,rfl⟩,G⟩
  have Q11:=hide hx
  clear hx E11
  have G11:=grown_trans G10 g (fun _ hk=>.inl hk)
  have FX11:=grown_block g FX10 hXB
  have FY11:=grown_block g FY10 hYB
  have OW11:=own_grown OW10 g hOB
  have FZ11:=grown_block g FZ10 hZB
  have IN11:=IN10.grown g hBS
  clear g G10 FX10 FY10 R10 OW10 FZ10 IN10
  obtain ⟨y0,y1,y2,y3,y4,y5,y6⟩:=seven_cells FY11
  obtain ⟨tt,htt⟩:∃ tt:ET,tt=.node ⟨3,0,0,lit x,[],bs⟩ ⟨none,0,co,c,some ⟨Z,0,none⟩,1⟩ [t]:=⟨_,rfl⟩
  have HEND:=hide (ended_any tt s ⟨r11,q.n⟩ B w11 R11 (by simp only;omega))
  have hev:eval tt=.agg #[.int .i64 3,.int .i64 0,.int .i64 0,.string (lit x),.slice none 0 0,.slice co N c,.slice (some ⟨Z,0,none⟩) 1 1]:=by rw [htt];show Value.agg _=_;rw [HLN.out];rfl
  have hex:tt.ex=.mk ⟨3,0,0,lit x,[],bs⟩ [t.ex]:=by rw [htt];simp [ET.ex,exL]
  have HFIN:Hid (al sub st=fin tt.ex ⟨r11,q.n⟩):=by show _=_;rw [hex];simp only [al,Q0.out,QB.out,QS.out,Q11.out]
  have HIN:Hid (∀ v:World,t.In (cut S v)→v.heap[Z]?=some (.cells #[.int .i64 t.hd.kind,.int .i64 t.hd.n,.int .i64 t.hd.range,.string t.hd.word,.slice t.sp.ma t.hd.ms.length t.sp.mc,.slice t.sp.ba t.hd.bs.length t.sp.bc,.slice t.sp.ka t.kids.length t.sp.kc] 41 (0,0))→v.ownsRow OB 9 1 (.slice co N c) N (wcells bs)→tt.In (cut w.heap.size v)):=by
   intro v hin fz ow
   rw [htt]
   simp only [ET.In]
   exact ⟨⟨.inl rfl,(own_cut ow hwO).1,one_seg fz (by omega)⟩,⟨by simp,by rw [← HLN.out];omega,by simp,by show (lit x).size≤_;rw [lit_size];omega,fun m hm=>by (cases hm),fun b hb=>by have:=HFIT.out b hb;omega,by rw [← HLN.out];exact (own_cut ow hwO).2,fun m hm=>by (cases hm)⟩,by simp only [InL];exact ⟨ET.In.low hwS t hin,trivial⟩⟩
  rw [hev] at HEND
  clear htt hex
  go_wp2_with fail
  refine HEND.out.mono ?_
  rintro e w12 ⟨⟨hx,rfl,R12⟩ | ⟨hf,rfl⟩,g⟩
  ·have HE:Hid (al sub st=.ok (tt.ex,⟨r11,q.n+1⟩)):=by show _=_;rw [HFIN.out,hx]
   have hq1:q.n+1≤100:=(fin_ok hx).2.2
   have G12:=grown_trans G11 g (fun _ hk=>.inl hk)
   have FX12:=grown_block g FX11 hXB
   have FZ12:=grown_block g FZ11 hZB
   have IN12:=IN11.grown g hBS
   have OW12:=own_grown OW11 g hOB
   obtain ⟨z0,z1,z2,z3,z4,z5,z6⟩:=seven_cells FX12
   obtain ⟨u0,u1,u2,u3,u4,u5,u6⟩:=thaw7 FX12
   have HRF:=hide (put7_rd (t:=tt) R12 (Ne.symm hXB))
   have HGF:=hide (put7_grown (t:=tt) G12 (X:=X) hXw)
   have HINF:=hide (HIN.out (put7 w12 X tt) (put7_in IN12 hXS) ((put7_far (by omega)).trans FZ12) (own_put7 OW12 hXO))
   have hput:put7 w12 X tt=(((((((w12.setCell ⟨X,0,none⟩ (.int .i64 3)).setCell ⟨X,1,none⟩ (.int .i64 0)).setCell ⟨X,2,none⟩ (.int .i64 0)).setCell ⟨X,3,none⟩ (.string (lit x))).setCell ⟨X,4,none⟩ (.slice none 0 0)).setCell ⟨X,5,none⟩ (.slice co N c)).setCell ⟨X,6,none⟩ (.slice (some ⟨Z,0,none⟩) 1 1)):=by
    have h7:=hev
    unfold eval at h7
    simp only [Value.agg.injEq,Array.mk.injEq,List.cons.injEq,and_true] at h7
    obtain ⟨e0,e1,e2,e3,e4,e5,e6⟩:=h7
    unfold put7
    rw [e0,e1,e2,e3,e4,e5,e6]
   rw [hput] at HRF HGF HINF
   clear hx g G12 FX12 R12 HIN HFIN HEND hput
   go_wp2
   exact bodyPost_ret (v:=.agg #[.int .i64 3,.int .i64 0,.int .i64 0,.string (lit x),.slice none 0 0,.slice co N c,.slice (some ⟨Z,0,none⟩) 1 1]) (by simp [results,Tryz.results190,go_sem,z0,z1,z2,z3,z4,z5,z6]) rfl ⟨.inl ⟨tt,_,HE.out,by rw [hev],HINF.out,HRF.out,hq1⟩,HGF.out⟩
  ·have HE:Hid (al sub st=.error (4,r11.length)):=by show _=_;rw [HFIN.out,hf]
   have G:=grown_trans G11 g (fun _ hk=>.inl hk)
   clear hf
   go_wp2_with fail
   exact ⟨rfl,.inr ⟨_,HE.out,rfl⟩,G⟩
end Go.Proofs.YtoldmigappbjcaaGreatDoor
namespace Go.GrainU
open Go.RowKit
theorem wrdOf_len {m:List ByteArray} {r x r':List UInt8} (h:wrdOf m r=.ok (x,r')):x.length≤12:=by
 unfold wrdOf at h
 split at h
 ·cases h
 ·rename_i p hp
  split at h
  ·injection h with h;rw [h] at hp;exact wrd_len hp
  ·cases h
end Go.GrainU
namespace Go.Proofs.YtoldmigappbjcaaGreatDoor
open Go.RowKit Go.GrainU
theorem pwords_new (w:World):Calls Tryz.prog 26 #[] w fun e w'=>e=.returned (.slice (some ⟨w.heap.size,0,none⟩) 8 8)∧w'=w.alloc (.cells #[.string ⟨#[97,118,103]⟩,.string ⟨#[99,111,117,110,116]⟩,.string ⟨#[102,105,114,115,116]⟩,.string ⟨#[108,97,115,116]⟩,.string ⟨#[109,97,120]⟩,.string ⟨#[109,105,110]⟩,.string ⟨#[114,105,115,101]⟩,.string ⟨#[115,117,109]⟩] 9):=by
 go_enter Tryz.func26,Tryz.ntmps26
 go_wp2
 go_ret
 exact ⟨rfl,rfl⟩
set_option maxHeartbeats 2000000 in
theorem factor_zero:Reads 148 21 (fct 0):=by
 intro s st B w0 w h hs hn hv hb0 hB0
 have hB:=h.lt
 have R0:=h.alloc (.cells #[.int .i64 0,.int .i64 0,.int .i64 0,.string ⟨#[]⟩,.slice none 0 0,.slice none 0 0,.slice none 0 0] 41)
 have G0:w.grownBy (w.alloc (.cells #[.int .i64 0,.int .i64 0,.int .i64 0,.string ⟨#[]⟩,.slice none 0 0,.slice none 0 0,.slice none 0 0] 41)) (some B):=grown_trans (World.grownBy.refl _ _) (World.grownBy_alloc _ _ none) (fun _ hk=>by cases hk)
 obtain ⟨c0,c1,c2⟩:=R0.cells
 obtain ⟨K,hK⟩:∃ K,K=pos s st.r:=⟨_,rfl⟩
 rw [← hK] at c1
 have HK:=hide hK
 have HG:=hide G0
 clear hK G0 R0
 go_enter Tryz.func148,Tryz.ntmps148
 go_wp2_with fail
 refine (throw_any _ _ _).mono ?_
 intro e w2 hh
 rw [hh.1,hh.2]
 clear hh
 go_wp2_with fail
 exact ⟨rfl,.inr ⟨(4,st.r.length),by simp [fct],by rw [HK.out];rfl⟩,HG.out⟩
set_option maxRecDepth 20000 in
set_option maxHeartbeats 8000000 in
theorem factor_succ {k:Nat} {d:Int} (hd0:0≤d) (hd1:d≤20) (hsub:Reads 62 (d+1) (smm (fct k))):Reads 148 d (fct (k+1)):=by
 intro s st B w0 w h hs hn hv hb0 hB0
 obtain ⟨i0,hi,hz0,hz1,hz2⟩:=info_parts Tryz.infoStr
 have hB:=h.lt
 obtain ⟨X,hX⟩:∃ X,X=w.heap.size:=⟨_,rfl⟩
 obtain ⟨V,hV⟩:∃ V,V=w.alloc (.cells #[.int .i64 0,.int .i64 0,.int .i64 0,.string ⟨#[]⟩,.slice none 0 0,.slice none 0 0,.slice none 0 0] 41):=⟨_,rfl⟩
 have R0:Rd 95 V B s st:=by rw [hV];exact h.alloc _
 have G0:w.grownBy V (some B):=by rw [hV];exact grown_trans (World.grownBy.refl _ _) (World.grownBy_alloc _ _ none) (fun _ hk=>by cases hk)
 have FX0:V.heap[X]?=some (.cells #[.int .i64 0,.int .i64 0,.int .i64 0,.string ⟨#[]⟩,.slice none 0 0,.slice none 0 0,.slice none 0 0] 41 (0,0)):=by rw [hV,hX];exact heap_alloc_new w _
 have hXB:X≠B:=by omega
 have hXw:w.heap.size≤X:=by omega
 have hdn:¬ (20:Int)<d:=by omega
 have HV:=hide hV
 have HX:=hide hX
 have HEV:=hide hv
 have HB0:=hide hb0
 have HSUB:=hide hsub
 have HALL:=hide (fun (s':ByteArray) (st':St) (w':World) (h':Rd 95 w' B s' st') (hs':s'.size≤2000) (hn':st'.n≤100) (hb':Below w0.heap.size w0 w')=>all_of hd0 (by omega) hsub s' st' B w0 w' h' hs' hn' hv hb' hB0)
 have A0:=hide (accept_any [40] s st B V R0 hs)
 unfold lit at A0
 clear hV hX h hv hb0 R0 hsub
 go_enter Tryz.func148,Tryz.ntmps148
 go_wp2_with fail
 rw [← HV.out,← HX.out]
 cases ha:acc [40] st.r with
 | some r1 =>
  have QA:=hide ha
  rw [ha] at A0
  simp only [Option.getD_some,Option.isSome_some] at A0
  clear ha
  refine A0.out.mono ?_
  rintro e w1 ⟨rfl,R1,g⟩
  have G1:=grown_trans G0 g (fun _ hk=>.inl hk)
  have FX1:=grown_block g FX0 hXB
  clear g G0 FX0 A0
  have hX1:=lt_of_block FX1
  obtain ⟨S,hS⟩:∃ S,S=w1.heap.size:=⟨_,rfl⟩
  have hXS:X<S:=by omega
  have hBS:B<S:=by rw [hS];exact R1.lt
  have HSC:=hide (HSUB.out s ⟨r1,st.n⟩ B w0 w1 R1 hs hn HEV.out (HB0.out.grown G1 HB0.out.size (fun j hj=>by cases hj;exact hB0)) hB0)
  unfold EPost at HSC;rw [← hS] at HSC
  have HS:=hide hS
  clear hS hX1
  go_wp2_with fail
  refine HSC.out.mono ?_
  rintro e w2 ⟨⟨t,q,hx,rfl,IN2,R2,hq⟩ | ⟨f,hf,rfl⟩,g⟩
  rotate_left
  ·have HE:Hid (fct (k+1) st=.error f):=by show _=_;rw [fct];simp only [QA.out,hf]
   have G:=grown_trans G1 g (fun _ hk=>.inl hk)
   clear hf
   go_wp2_with fail
   exact ⟨rfl,.inr ⟨_,HE.out,rfl⟩,G⟩
  have QS:=hide hx
  have G2:=grown_trans G1 g (fun _ hk=>.inl hk)
  have FX2:=grown_block g FX1 hXB
  have hS2:S≤w2.heap.size:=by have:=g.size;have:=HS.out;omega
  clear g hx G1 FX1 R1 HSC
  obtain ⟨Y,hY⟩:∃ Y,Y=w2.heap.size:=⟨_,rfl⟩
  have hYB:Y≠B:=by omega
  obtain ⟨w3,hw3⟩:∃ v,v=w2.alloc (.cells #[.int .i64 t.hd.kind,.int .i64 t.hd.n,.int .i64 t.hd.range,.string t.hd.word,.slice t.sp.ma t.hd.ms.length t.sp.mc,.slice t.sp.ba t.hd.bs.length t.sp.bc,.slice t.sp.ka t.kids.length t.sp.kc] 41):=⟨_,rfl⟩
  have R3:Rd 95 w3 B s q:=by rw [hw3];exact R2.alloc _
  have G3:w.grownBy w3 (some B):=by rw [hw3];exact grown_trans G2 (World.grownBy_alloc _ _ none) (fun _ hk=>by cases hk)
  have FX3:w3.heap[X]?=some (.cells #[.int .i64 0,.int .i64 0,.int .i64 0,.string ⟨#[]⟩,.slice none 0 0,.slice none 0 0,.slice none 0 0] 41 (0,0)):=by rw [hw3,Below.heap_alloc _ _ _ (by omega)];exact FX2
  have FY3:w3.heap[Y]?=some (.cells #[.int .i64 t.hd.kind,.int .i64 t.hd.n,.int .i64 t.hd.range,.string t.hd.word,.slice t.sp.ma t.hd.ms.length t.sp.mc,.slice t.sp.ba t.hd.bs.length t.sp.bc,.slice t.sp.ka t.kids.length t.sp.kc] 41 (0,0)):=by rw [hw3,hY];exact heap_alloc_new w2 _
  have IN3:t.In (cut S w3):=by rw [hw3];exact IN2.grown (B:=B) (grown_trans (World.grownBy.refl _ _) (World.grownBy_alloc _ _ none) (fun _ hk=>by cases hk)) hBS
  have HW3:=hide hw3
  have HY:=hide hY
  clear hw3 hY R2 G2 FX2 IN2
  unfold eval
  go_wp2_with fail
  rw [← HW3.out,← HY.out]
  have E4:=hide (expect_any [41] s q B w3 R3 hs)
  unfold lit at E4
  refine E4.out.mono ?_
  rintro e w4 ⟨⟨r4,hx,rfl,R4⟩ | ⟨f,hf,rfl⟩,g⟩
  rotate_left
  ·have HE:Hid (fct (k+1) st=.error f):=by show _=_;rw [fct];simp only [QA.out,QS.out,hf]
   have G:=grown_trans G3 g (fun _ hk=>.inl hk)
   clear hf
   go_wp2_with fail
   exact ⟨rfl,.inr ⟨_,HE.out,rfl⟩,G⟩
  have HQ:Hid (fct (k+1) st=.ok (t.ex,⟨r4,q.n⟩)):=by show _=_;rw [fct];simp only [QA.out,QS.out,hx]
  have G4:=grown_trans G3 g (fun _ hk=>.inl hk)
  have FX4:=grown_block g FX3 hXB
  have FY4:=grown_block g FY3 hYB
  have IN4:=IN3.grown g hBS
  clear g hx G3 FX3 FY3 R3 IN3 E4
  obtain ⟨y0,y1,y2,y3,y4,y5,y6⟩:=seven_cells FY4
  obtain ⟨z0,z1,z2,z3,z4,z5,z6⟩:=seven_cells FX4
  obtain ⟨u0,u1,u2,u3,u4,u5,u6⟩:=thaw7 FX4
  have HRF:=hide (put7_rd (t:=t) R4 (Ne.symm hXB))
  have HGF:=hide (put7_grown (t:=t) G4 (X:=X) hXw)
  have HIN:=hide (ET.In.low (b':=w.heap.size) (by omega) t (put7_in (t:=t) IN4 (X:=X) (by omega)))
  clear R4 G4 FX4 IN4
  unfold put7 at HRF HGF HIN
  go_wp2
  exact bodyPost_ret (v:=eval t) (by simp [eval,results,Tryz.results148,go_sem,z0,z1,z2,z3,z4,z5,z6]) rfl ⟨.inl ⟨t,_,HQ.out,rfl,HIN.out,HRF.out,hq⟩,HGF.out⟩
 | none =>
  have QA:=hide ha
  rw [ha] at A0
  simp only [Option.getD_none,Option.isSome_none] at A0
  clear ha
  refine A0.out.mono ?_
  rintro e w1 ⟨rfl,R1,g⟩
  have G1:=grown_trans G0 g (fun _ hk=>.inl hk)
  have FX1:=grown_block g FX0 hXB
  clear g G0 FX0 A0
  have HN:=hide (rnext_any s st B w1 R1 hs)
  have HD:=hide (digit_byte (nxt st.r) w1)
  go_wp2_with fail
  refine HN.out.mono ?_
  intro e w2 hh
  rw [hh.1,hh.2]
  clear hh
  go_wp2_with fail
  cases hdg:digit (nxt st.r) with
  | true =>
   have QD:=hide hdg
   rw [hdg] at HD
   clear hdg HN
   refine HD.out.mono ?_
   intro e w2 hh
   rw [hh.1,hh.2]
   clear hh HD
   go_wp2_with fail
   have hX1:=lt_of_block FX1
   refine (number_any 0 1000000 s st B w0 w1 R1 hs HEV.out (HB0.out.grown G1 HB0.out.size (fun j hj=>by cases hj;exact hB0)) hB0).mono ?_
   rintro e w2 ⟨⟨nn,r2,hx,rfl,R2⟩ | ⟨f,hf,rfl⟩,g⟩
   rotate_left
   ·have HE:Hid (fct (k+1) st=.error f):=by show _=_;rw [fct];simp only [QA.out,QD.out,if_true,hf]
    have G:=grown_trans G1 g (fun _ hk=>.inl hk)
    clear hf
    go_wp2_with fail
    exact ⟨rfl,.inr ⟨_,HE.out,rfl⟩,G⟩
   have QN:=hide hx
   have G2:=grown_trans G1 g (fun _ hk=>.inl hk)
   have FX2:=grown_block g FX1 hXB
   clear g hx G1 FX1 R1
   obtain ⟨t,htt⟩:∃ t:ET,t=.node ⟨1,nn,0,lit [],[],[]⟩ ⟨none,0,none,0,none,0⟩ []:=⟨_,rfl⟩
   have HEND:=hide (ended_any t s ⟨r2,st.n⟩ B w2 R2 (by simp only;omega))
   have hev:eval t=.agg #[.int .i64 1,.int .i64 nn,.int .i64 0,.string ⟨#[]⟩,.slice none 0 0,.slice none 0 0,.slice none 0 0]:=by rw [htt];rfl
   have hex:t.ex=.mk ⟨1,nn,0,lit [],[],[]⟩ []:=by rw [htt];simp [ET.ex,exL]
   have HFIN:Hid (fct (k+1) st=fin t.ex ⟨r2,st.n⟩):=by show _=_;rw [hex,fct];simp only [QA.out,QD.out,if_true,QN.out]
   have HIN0:Hid (∀ v:World,t.In (cut (X+1) v)):=by
    intro v
    rw [htt]
    simp only [ET.In]
    exact ⟨⟨.inl rfl,.inl rfl,.inl rfl⟩,⟨by simp,by simp,by simp,by rw [lit_size];simp,fun m hm=>by (cases hm),fun b hb=>by (cases hb),Nat.le_refl _,fun m hm=>by (cases hm)⟩,by simp [InL]⟩
   have HEV2:=hide hev
   rw [hev] at HEND
   clear htt hex hev
   go_wp2_with fail
   refine HEND.out.mono ?_
   rintro e w3 ⟨⟨hx,rfl,R3⟩ | ⟨hf,rfl⟩,g⟩
   ·have HQ:Hid (fct (k+1) st=.ok (t.ex,⟨r2,st.n+1⟩)):=by show _=_;rw [HFIN.out,hx]
    have hq1:st.n+1≤100:=(fin_ok hx).2.2
    have G3:=grown_trans G2 g (fun _ hk=>.inl hk)
    have FX3:=grown_block g FX2 hXB
    have IN3:=HIN0.out w3
    clear g hx G2 FX2 R2 HEND HFIN HIN0
    rw [← HEV2.out]
    obtain ⟨z0,z1,z2,z3,z4,z5,z6⟩:=seven_cells FX3
    obtain ⟨u0,u1,u2,u3,u4,u5,u6⟩:=thaw7 FX3
    have HRF:=hide (put7_rd (t:=t) R3 (Ne.symm hXB))
    have HGF:=hide (put7_grown (t:=t) G3 (X:=X) hXw)
    have HIN:=hide (ET.In.low (b':=w.heap.size) (by omega) t (put7_in (t:=t) IN3 (X:=X) (by omega)))
    clear R3 G3 FX3 IN3
    unfold eval
    unfold put7 at HRF HGF HIN
    go_wp2
    exact bodyPost_ret (v:=eval t) (by simp [eval,results,Tryz.results148,go_sem,z0,z1,z2,z3,z4,z5,z6]) rfl ⟨.inl ⟨t,_,HQ.out,rfl,HIN.out,HRF.out,hq1⟩,HGF.out⟩
   ·have HE:Hid (fct (k+1) st=.error (4,r2.length)):=by show _=_;rw [HFIN.out,hf]
    have G:=grown_trans G2 g (fun _ hk=>.inl hk)
    clear hf
    go_wp2_with fail
    exact ⟨rfl,.inr ⟨_,HE.out,rfl⟩,G⟩
  | false =>
   have QD:=hide hdg
   rw [hdg] at HD
   clear hdg HN
   refine HD.out.mono ?_
   intro e w2 hh
   rw [hh.1,hh.2]
   clear hh HD
   have hX1:=lt_of_block FX1
   have hB1:=R1.lt
   obtain ⟨b,hb⟩:∃ b,b=w1.heap.size:=⟨_,rfl⟩
   have OW:((w1.alloc (.cells #[.string ⟨#[97,118,103]⟩,.string ⟨#[99,111,117,110,116]⟩,.string ⟨#[102,105,114,115,116]⟩,.string ⟨#[108,97,115,116]⟩,.string ⟨#[109,97,120]⟩,.string ⟨#[109,105,110]⟩,.string ⟨#[114,105,115,101]⟩,.string ⟨#[115,117,109]⟩] 9)).alloc (.cells #[.string ⟨#[97,108,108]⟩] 9)).ownsRow b 9 1 (.slice (some ⟨b,0,none⟩) 8 8) 8 (wcells words8):=by
    have:(w1.alloc (.cells #[.string ⟨#[97,118,103]⟩,.string ⟨#[99,111,117,110,116]⟩,.string ⟨#[102,105,114,115,116]⟩,.string ⟨#[108,97,115,116]⟩,.string ⟨#[109,97,120]⟩,.string ⟨#[109,105,110]⟩,.string ⟨#[114,105,115,101]⟩,.string ⟨#[115,117,109]⟩] 9)).ownsRow b 9 1 (.slice (some ⟨b,0,none⟩) 8 8) 8 (wcells words8) :=
     ⟨rfl,.inr ⟨b,8,#[.string ⟨#[97,118,103]⟩,.string ⟨#[99,111,117,110,116]⟩,.string ⟨#[102,105,114,115,116]⟩,.string ⟨#[108,97,115,116]⟩,.string ⟨#[109,97,120]⟩,.string ⟨#[109,105,110]⟩,.string ⟨#[114,105,115,101]⟩,.string ⟨#[115,117,109]⟩],rfl,Nat.le_refl _,by rw [hb];exact heap_alloc_new w1 _,Nat.le_refl _,by unfold maxLen;omega,rfl,rfl⟩⟩
    exact this.alloc _
   have R2:=(R1.alloc (.cells #[.string ⟨#[97,118,103]⟩,.string ⟨#[99,111,117,110,116]⟩,.string ⟨#[102,105,114,115,116]⟩,.string ⟨#[108,97,115,116]⟩,.string ⟨#[109,97,120]⟩,.string ⟨#[109,105,110]⟩,.string ⟨#[114,105,115,101]⟩,.string ⟨#[115,117,109]⟩] 9)).alloc (.cells #[.string ⟨#[97,108,108]⟩] 9)
   have G2:=grown_trans (grown_trans G1 (World.grownBy_alloc w1 (.cells #[.string ⟨#[97,118,103]⟩,.string ⟨#[99,111,117,110,116]⟩,.string ⟨#[102,105,114,115,116]⟩,.string ⟨#[108,97,115,116]⟩,.string ⟨#[109,97,120]⟩,.string ⟨#[109,105,110]⟩,.string ⟨#[114,105,115,101]⟩,.string ⟨#[115,117,109]⟩] 9) none) (fun _ hk=>by cases hk)) (World.grownBy_alloc _ (.cells #[.string ⟨#[97,108,108]⟩] 9) none) (fun _ hk=>by cases hk)
   have FX2:((w1.alloc (.cells #[.string ⟨#[97,118,103]⟩,.string ⟨#[99,111,117,110,116]⟩,.string ⟨#[102,105,114,115,116]⟩,.string ⟨#[108,97,115,116]⟩,.string ⟨#[109,97,120]⟩,.string ⟨#[109,105,110]⟩,.string ⟨#[114,105,115,101]⟩,.string ⟨#[115,117,109]⟩] 9)).alloc (.cells #[.string ⟨#[97,108,108]⟩] 9)).heap[X]?=some (.cells #[.int .i64 0,.int .i64 0,.int .i64 0,.string ⟨#[]⟩,.slice none 0 0,.slice none 0 0,.slice none 0 0] 41 (0,0)):=by rw [Below.heap_alloc _ _ _ (by simp;omega),Below.heap_alloc _ _ _ hX1];exact FX1
   have NEW:∀ j u,([.string ⟨#[97,108,108]⟩]:List Value)[j]?=some u→((w1.alloc (.cells #[.string ⟨#[97,118,103]⟩,.string ⟨#[99,111,117,110,116]⟩,.string ⟨#[102,105,114,115,116]⟩,.string ⟨#[108,97,115,116]⟩,.string ⟨#[109,97,120]⟩,.string ⟨#[109,105,110]⟩,.string ⟨#[114,105,115,101]⟩,.string ⟨#[115,117,109]⟩] 9)).alloc (.cells #[.string ⟨#[97,108,108]⟩] 9)).cell? ((⟨b+1,0,none⟩:Addr).add j)=some u:=news_one (by simp [hb]) _ _
   have hWs:((w1.alloc (.cells #[.string ⟨#[97,118,103]⟩,.string ⟨#[99,111,117,110,116]⟩,.string ⟨#[102,105,114,115,116]⟩,.string ⟨#[108,97,115,116]⟩,.string ⟨#[109,97,120]⟩,.string ⟨#[109,105,110]⟩,.string ⟨#[114,105,115,101]⟩,.string ⟨#[115,117,109]⟩] 9)).alloc (.cells #[.string ⟨#[97,108,108]⟩] 9)).heap.size=b+1+1:=by rw [hb];simp
   have HOW:=hide OW
   have HR2:=hide R2
   have HG2:=hide G2
   have HF2:=hide FX2
   have HWS:=hide hWs
   have HNEW:=hide NEW
   rw [hb] at HOW HNEW
   have Hb:=hide hb
   clear G1 FX1 R1 NEW OW R2 G2 FX2 hWs
   go_wp2_with fail
   refine (pwords_new w1).mono ?_
   intro e w2 hh
   rw [hh.1,hh.2]
   clear hh
   go_wp2_with (at_builtin;refine wpList_append_lies _ rfl _ _ 38 rfl w1.heap.size 9 i0 (.string ⟨#[]⟩) 1 16 Tryz.underlying38 hi hz0 hz1 hz2 rfl (by decide) _ _ _ rfl HOW.out ⟨w1.heap.size+1,0,none⟩ 1 1 [.string ⟨#[97,108,108]⟩] rfl rfl HNEW.out (by simp [Value.oneCell']) (by decide) (by unfold maxLen;omega) (by omega) (by simp;omega) (w1.heap.size+1+1) (by simp) ?_)
   have OW:=HOW.out
   rw [← hb] at OW
   have R2:=HR2.out
   have G2:=HG2.out
   have FX2:=HF2.out
   have hWs:=HWS.out
   clear HOW HR2 HG2 HF2 HWS HNEW
   intro g' cp' w5 own5 gr5 hat5 hlt5
   rw [← hb] at own5 gr5
   have R5:=R2.app (by omega) OW gr5
   have G5:w.grownBy w5 (some B):=grown_trans G2 gr5 (fun j hj=>.inr (by have:=(OW.lt j hj).1;omega))
   have FX5:w5.heap[X]?=some (.cells #[.int .i64 0,.int .i64 0,.int .i64 0,.string ⟨#[]⟩,.slice none 0 0,.slice none 0 0,.slice none 0 0] 41 (0,0)):=(gr5.block X (by omega) (fun e=>by have:=(OW.lt X e.symm).1;omega)).trans FX2
   have own6:w5.ownsRow b 9 1 (.slice (some ⟨g',0,none⟩) 9 cp') 9 (wcells (words8++[lit wordAll])):=own5
   have hg':b≤g':=(own6.lt g' rfl).1
   have SG:Seg w5 (some ⟨g',0,none⟩) (wcells (words8++[lit wordAll])):=by
    obtain ⟨ao,c',hv,sg,hc⟩:=own_open own6
    simp at hv
    rw [hv.1];exact sg
   have HWO:=hide (wordOf_any (words8++[lit wordAll]) (some ⟨g',0,none⟩) 9 cp' s st B w5 R5 hs SG rfl (by omega) (fun b' off e=>by cases e;omega))
   clear own5 gr5 hat5 hlt5 R2 G2 FX2 OW SG own6 hb hWs
   go_wp2_with fail
   refine HWO.out.mono ?_
   rintro e w6 ⟨⟨x,r6,hx,rfl,R6⟩ | ⟨f,hf,rfl⟩,g⟩
   rotate_left
   ·have HE:Hid (fct (k+1) st=.error f):=by show _=_;rw [fct];simp only [QA.out,QD.out,Bool.false_eq_true,if_false,hf]
    have G:=grown_trans G5 g (fun _ hk=>.inl hk)
    clear hf
    go_wp2_with fail
    exact ⟨rfl,.inr ⟨_,HE.out,rfl⟩,G⟩
   have QW:=hide hx
   have hxl:=wrdOf_len hx
   have G6:=grown_trans G5 g (fun _ hk=>.inl hk)
   have FX6:=grown_block g FX5 hXB
   have hX6:=lt_of_block FX6
   clear g hx G5 FX5 R5 HWO
   by_cases h0:x=wordAll
   ·have QE:Hid (fct (k+1) st=al (smm (fct k)) ⟨r6,st.n⟩):=by show _=_;rw [fct];simp only [QA.out,QD.out,Bool.false_eq_true,if_false,QW.out,h0,if_true]
    have hl:lit x=⟨#[97,108,108]⟩:=by rw [h0];rfl
    rw [hl]
    clear h0 hl
    go_wp2_with fail
    have HC:=hide (HALL.out s ⟨r6,st.n⟩ w6 R6 hs hn (HB0.out.grown G6 HB0.out.size (fun j hj=>by cases hj;exact hB0)))
    refine HC.out.mono ?_
    rintro e w7 ⟨⟨t,q,hx,rfl,IN7,R7,hq⟩ | ⟨f,hf,rfl⟩,g⟩
    ·have HQ:Hid (fct (k+1) st=.ok (t.ex,q)):=by show _=_;rw [QE.out,hx]
     have G7:=grown_trans G6 g (fun _ hk=>.inl hk)
     have FX7:=grown_block g FX6 hXB
     clear g hx G6 FX6 R6 HC
     obtain ⟨z0,z1,z2,z3,z4,z5,z6⟩:=seven_cells FX7
     obtain ⟨u0,u1,u2,u3,u4,u5,u6⟩:=thaw7 FX7
     have HRF:=hide (put7_rd (t:=t) R7 (Ne.symm hXB))
     have HGF:=hide (put7_grown (t:=t) G7 (X:=X) hXw)
     have HIN:=hide (ET.In.low (b':=w.heap.size) (by omega) t (put7_in (t:=t) IN7 (X:=X) (by omega)))
     clear R7 G7 FX7 IN7
     unfold eval
     unfold put7 at HRF HGF HIN
     go_wp2
     exact bodyPost_ret (v:=eval t) (by simp [eval,results,Tryz.results148,go_sem,z0,z1,z2,z3,z4,z5,z6]) rfl ⟨.inl ⟨t,_,HQ.out,rfl,HIN.out,HRF.out,hq⟩,HGF.out⟩
    ·have HE:Hid (fct (k+1) st=.error f):=by show _=_;rw [QE.out,hf]
     have G:=grown_trans G6 g (fun _ hk=>.inl hk)
     clear hf
     go_wp2_with fail
     exact ⟨rfl,.inr ⟨_,HE.out,rfl⟩,G⟩
   ·have QE:Hid (fct (k+1) st=wnd (lit x) ⟨r6,st.n⟩):=by show _=_;rw [fct];simp only [QA.out,QD.out,Bool.false_eq_true,if_false,QW.out,if_neg h0]
    have HX0:Hid (lit x≠lit [97,108,108]):=fun e=>h0 (by have:=congrArg (fun b:ByteArray=>b.data.toList) e;simpa [lit,wordAll] using this)
    have q:=word_not (l:=[97,108,108]) HX0.out
    have hwl:(lit x).size≤100:=by rw [lit_size];omega
    have HWN:=hide (window_any (lit x) s ⟨r6,st.n⟩ B w0 w6 R6 hs (by simp only;omega) HEV.out (HB0.out.grown G6 HB0.out.size (fun j hj=>by cases hj;exact hB0)) hB0 hwl)
    clear h0
    go_wp2_with fail
    refine HWN.out.mono ?_
    rintro e w7 ⟨⟨t,q,hx,rfl,IN7,R7⟩ | ⟨f,hf,rfl⟩,g⟩
    ·have HQ:Hid (fct (k+1) st=.ok (t.ex,q)):=by show _=_;rw [QE.out,hx]
     have hq:=(fct_got _ _ _ _ HQ.out).mx
     have G7:=grown_trans G6 g (fun _ hk=>.inl hk)
     have FX7:=grown_block g FX6 hXB
     clear g hx G6 FX6 R6 HWN
     obtain ⟨z0,z1,z2,z3,z4,z5,z6⟩:=seven_cells FX7
     obtain ⟨u0,u1,u2,u3,u4,u5,u6⟩:=thaw7 FX7
     have HRF:=hide (put7_rd (t:=t) R7 (Ne.symm hXB))
     have HGF:=hide (put7_grown (t:=t) G7 (X:=X) hXw)
     have HIN:=hide (ET.In.low (b':=w.heap.size) (by omega) t (put7_in (t:=t) IN7 (X:=X) (by omega)))
     clear R7 G7 FX7 IN7
     unfold eval
     unfold put7 at HRF HGF HIN
     go_wp2
     exact bodyPost_ret (v:=eval t) (by simp [eval,results,Tryz.results148,go_sem,z0,z1,z2,z3,z4,z5,z6]) rfl ⟨.inl ⟨t,_,HQ.out,rfl,HIN.out,HRF.out,hq⟩,HGF.out⟩
    ·have HE:Hid (fct (k+1) st=.error f):=by show _=_;rw [QE.out,hf]
     have G:=grown_trans G6 g (fun _ hk=>.inl hk)
     clear hf
     go_wp2_with fail
     exact ⟨rfl,.inr ⟨_,HE.out,rfl⟩,G⟩
theorem factor_any:∀ k:Nat,k≤20→Reads 148 (21-k) (fct k):=by
 intro k
 induction k with
 | zero=>intro _;exact factor_zero
 | succ k ih =>
  intro hk
  have e:(21-((k+1:Nat):Int))+1=21-(k:Int):=by omega
  refine factor_succ (by omega) (by omega) ?_
  rw [e]
  exact sum_of (term_of (ih (by omega)) (fct_le k)) (chn_le (fct_le k))
theorem sum_any:Reads 62 1 (smm (fct 20)) :=
 sum_of (term_of (factor_any 20 (by omega)) (fct_le 20)) (chn_le (fct_le 20))
end Go.Proofs.YtoldmigappbjcaaGreatDoor
namespace Go.GrainU
open Go.RowKit
theorem dprL_take {l:List ET} {k n:Nat} (h:k<l.length):dprL (exL (l.take (k+1))) n=(dprL (exL (l.take k)) n || dpr (l[k]).ex n):=by
 rw [List.take_add_one,List.getElem?_eq_getElem h]
 simp only [Option.toList_some]
 generalize l.take k=a
 induction a with
 | nil=>simp [exL,dprL]
 | cons x r ih=>simp [exL,dprL,ih,Bool.or_assoc]
theorem dprL_at {l:List ET} {k n:Nat} (h:k<l.length) (h':dpr (l[k]).ex n=true):dprL (exL l) n=true:=by
 induction l generalizing k with
 | nil=>simp at h
 | cons x r ih =>
  match k,h with
  | 0,_=>simp at h';simp [exL,dprL,h']
  | k+1,h=>simp only [exL,dprL];rw [ih (k:=k) (by simpa using h) (by simpa using h')];simp
theorem dprL_end {l:List ET} {k n:Nat} (hk:k=l.length) (h:dprL (exL (l.take k)) n=false):dprL (exL l) n=false:=by
 rw [hk,List.take_length] at h;exact h
end Go.GrainU
namespace Go.Proofs.YtoldmigappbjcaaGreatDoor
open Go.RowKit Go.GrainU
abbrev Deeps (t:ET):Prop:=∀ (k:Nat) (w:World),t.In w→k≤100→Calls Tryz.prog 64 #[eval t,.int .i64 (k:Nat)] w fun e w'=>e=.returned (.bool (dpr t.ex k))∧Below w.heap.size w w'
set_option maxHeartbeats 1000000 in
theorem dclos_of (t:ET) (ih:Deeps t) (k P:Nat) (w:World) (hin:t.In w) (hk:k≤99) (hP:w.cell? ⟨P,0,none⟩=some (.int .i64 ((k:Int)+1))) :
  Calls Tryz.prog 108 #[eval t,.pointer (some ⟨P,0,none⟩)] w fun e w'=>e=.returned (.bool (dpr t.ex k))∧Below w.heap.size w w':=by
 have hl:P<w.heap.size:=World.block_lt_of_cell? w _ hP
 have HIN:=hide hin
 have HIH:=hide (ih k)
 obtain ⟨D,hD⟩:∃ D,D=dpr t.ex k:=⟨_,rfl⟩
 rw [← hD] at HIH ⊢
 clear hD ih hin
 unfold eval at HIH ⊢
 generalize t.hd.ms.length=ml at *
 generalize t.hd.bs.length=bl at *
 generalize t.kids.length=kl at *
 have bel:Below w.heap.size w (w.alloc (.cells #[.int .i64 t.hd.kind,.int .i64 t.hd.n,.int .i64 t.hd.range,.string t.hd.word,.slice t.sp.ma ml t.sp.mc,.slice t.sp.ba bl t.sp.bc,.slice t.sp.ka kl t.sp.kc] 41)):=(Below.refl _ _).alloc (Nat.le_refl _) _
 have e1:((k:Int)+1)-1=(k:Int):=by omega
 go_enter Tryz.func108,Tryz.ntmps108
 go_wp2_with fail
 refine (HIH.out _ (ET.In.below bel t HIN.out) (by omega)).mono ?_
 rintro e w1 ⟨rfl,b1⟩
 go_wp2_with fail
 go_ret
 exact ⟨rfl,bel.trans (b1.mono bel.size)⟩
set_option maxHeartbeats 1000000 in
theorem dindex_any (kids:List ET) (ih:∀ t∈kids,Deeps t) (n P:Nat) (hn:n≤99)
  (ka:Option Addr) (kl kc:Nat) (w:World) (hK:Seg w ka (ecells kids)) (hkl:kl=kids.length) (lK:kl≤9223372036854775806) (hL:InL w kids) (hP:w.cell? ⟨P,0,none⟩=some (.int .i64 ((n:Int)+1))) :
  Calls Tryz.prog 149 #[.slice ka kl kc,.func (.func 108) #[] #[.pointer (some ⟨P,0,none⟩)]] w fun e w'=>(∃ i:Int,e=.returned (.int .i64 i)∧decide (0≤i)=dprL (exL kids) n)∧Below w.heap.size w w':=by
 have HK:=hide hkl
 have hPl:P<w.heap.size:=World.block_lt_of_cell? w _ hP
 have HP:=hide hP
 clear hkl hP
 go_enter Tryz.func149,Tryz.ntmps149
 go_wp2
 go_loopw [8] (fun i wr=>∃ k:Nat,k≤kl∧i=.int .i64 k∧Hid (dprL (exL (kids.take k)) n=false)∧Below w.heap.size w wr) (fun i _=>kl-(intOf i).toNat)
 case atStart=>exact ⟨0,Nat.zero_le _,rfl,by show _=_;simp [exL,dprL],Below.refl _ _⟩
 case round =>
  obtain ⟨k,hk,rfl,HJ,bel⟩:=hrel
  by_cases hlt:k<kl
  ·have hkl:k<kids.length:=by rw [← HK.out];exact hlt
   obtain ⟨b,off,rfl,hbl,hcell⟩:=seg_expr hK hkl
   obtain ⟨t,ht⟩:∃ t,t=kids[k]:=⟨_,rfl⟩
   have hc:=(hcell k hkl).below bel
   rw [← ht] at hc
   have hmem:t∈kids:=by rw [ht];exact List.getElem_mem hkl
   have HT:=hide (inL_mem hL t hmem)
   have Ht:=hide ht
   clear ht hcell hK
   obtain ⟨c0,c1,c2,c3,c4,c5,c6⟩:=hc
   go_wp2_with fail
   refine (dclos_of t (ih t hmem) n P _ (ET.In.below bel t HT.out) hn ((bel.cell (p:=⟨P,0,none⟩) (by exact hPl)).trans HP.out)).mono ?_
   rintro e w1 ⟨rfl,b1⟩
   have bel1:Below w.heap.size w w1:=bel.trans (b1.mono bel.size)
   obtain ⟨D,hD⟩:∃ D,D=dpr t.ex n:=⟨_,rfl⟩
   rw [← hD]
   have HD:=hide hD
   clear hD
   cases D with
   | true =>
    go_wp2
    go_ret
    exact ⟨⟨k,rfl,by rw [dprL_at hkl (by rw [← Ht.out];exact HD.out.symm)];simp⟩,bel1⟩
   | false =>
    have HJ':Hid (dprL (exL (kids.take (k+1))) n=false):=by show _=_;rw [dprL_take hkl,HJ.out,← Ht.out,← HD.out];rfl
    go_wp2
    go_roundw
    case rel=>exact ⟨k+1,by omega,by go_num,HJ',bel1⟩
    case measure=>simp [intOf];omega
  ·go_wp2
   go_ret
   exact ⟨⟨-1,rfl,by rw [dprL_end (by have:=HK.out;omega) HJ.out];decide⟩,bel⟩
theorem dcont_any (kids:List ET) (ih:∀ t∈kids,Deeps t) (n P:Nat) (hn:n≤99)
  (ka:Option Addr) (kl kc:Nat) (w:World) (hK:Seg w ka (ecells kids)) (hkl:kl=kids.length) (lK:kl≤9223372036854775806) (hL:InL w kids) (hP:w.cell? ⟨P,0,none⟩=some (.int .i64 ((n:Int)+1))) :
  Calls Tryz.prog 107 #[.slice ka kl kc,.func (.func 108) #[] #[.pointer (some ⟨P,0,none⟩)]] w fun e w'=>e=.returned (.bool (dprL (exL kids) n))∧Below w.heap.size w w':=by
 have HI:=hide (dindex_any kids ih n P hn ka kl kc w hK hkl lK hL hP)
 clear hkl hP
 obtain ⟨D,hD⟩:∃ D,D=dprL (exL kids) n:=⟨_,rfl⟩
 rw [← hD]
 have HD:=hide hD
 clear hD
 go_enter Tryz.func107,Tryz.ntmps107
 go_wp2_with fail
 refine HI.out.mono ?_
 rintro e w1 ⟨⟨i,rfl,hi⟩,b1⟩
 rw [← HD.out] at hi
 go_wp2
 go_ret
 exact ⟨rfl,b1⟩
set_option maxHeartbeats 1000000 in
theorem deeper_any:∀ t:ET,Deeps t:=by
 refine ET.ind ?_
 intro h s kids ih k w hin hk100
 obtain ⟨kd,n,rg,wd,ms,bs⟩:=h
 obtain ⟨ma,mc,ba,bc,ka,kc⟩:=s
 simp only [ET.In] at hin
 obtain ⟨⟨_,_,hK⟩,⟨_,_,lK,_⟩,hL⟩:=hin
 have hdp:dpr (ET.ex (.node ⟨kd,n,rg,wd,ms,bs⟩ ⟨ma,mc,ba,bc,ka,kc⟩ kids)) k=match k with | 0=>true | k+1=>dprL (exL kids) k:=by
  cases k <;> simp [ET.ex,dpr]
 rw [hdp]
 show Calls Tryz.prog _ #[.agg #[.int .i64 kd,.int .i64 n,.int .i64 rg,.string wd,.slice ma ms.length mc,.slice ba bs.length bc,.slice ka kids.length kc],.int .i64 (k:Nat)] w _
 generalize ms.length=ml
 generalize bs.length=bl
 obtain ⟨kl,hkl⟩:∃ x,x=kids.length:=⟨_,rfl⟩
 rw [← hkl] at lK ⊢
 have HK:=hide hkl
 clear hkl hdp
 cases k with
 | zero =>
  have bel:Below w.heap.size w ((w.alloc (.cells #[.int .i64 kd,.int .i64 n,.int .i64 rg,.string wd,.slice ma ml mc,.slice ba bl bc,.slice ka kl kc] 41)).alloc (.cells #[.int .i64 0] 3)):=((Below.refl _ _).alloc (Nat.le_refl _) _).alloc (by simp) _
  go_enter Tryz.func64,Tryz.ntmps64
  go_wp2_with fail
  go_ret
  exact ⟨rfl,bel⟩
 | succ k =>
  simp only [Int.natCast_add]
  obtain ⟨V,hV⟩:∃ V,V=(w.alloc (.cells #[.int .i64 kd,.int .i64 n,.int .i64 rg,.string wd,.slice ma ml mc,.slice ba bl bc,.slice ka kl kc] 41)).alloc (.cells #[.int .i64 ((k:Int)+1)] 3):=⟨_,rfl⟩
  have bel:Below w.heap.size w V:=by rw [hV];exact ((Below.refl _ _).alloc (Nat.le_refl _) _).alloc (by simp) _
  have F1:V.heap[w.heap.size+1]?=some (.cells #[.int .i64 ((k:Int)+1)] 3 (0,0)):=by
   have:=heap_alloc_new (w.alloc (.cells #[.int .i64 kd,.int .i64 n,.int .i64 rg,.string wd,.slice ma ml mc,.slice ba bl bc,.slice ka kl kc] 41)) (.cells #[.int .i64 ((k:Int)+1)] 3)
   rw [hV];simpa using this
  have HC:=hide (dcont_any kids ih k (w.heap.size+1) (by omega) ka kl kc V (hK.below bel) HK.out lK (hL.below bel) (one_cell7 F1).1)
  have HV:=hide hV
  have h1:¬ ((k:Int)+1)<1:=by omega
  clear hV F1
  go_enter Tryz.func64,Tryz.ntmps64
  go_wp2_with fail
  rw [← HV.out]
  refine HC.out.mono ?_
  rintro e w1 ⟨rfl,b1⟩
  go_wp2_with fail
  go_ret
  exact ⟨rfl,bel.trans (b1.mono bel.size)⟩
end Go.Proofs.YtoldmigappbjcaaGreatDoor
namespace Go.GrainU
open Go.RowKit
theorem pos_lt {s:ByteArray} {r:List UInt8} (h:r <:+ s.data.toList):pos s r<s.size↔r≠[]:=by
 have:=suf_len h
 unfold pos
 constructor
 ·intro h1 h2;rw [h2] at h1;simp at h1
 ·intro h1
  have:0<r.length:=List.length_pos_iff.2 h1
  omega
end Go.GrainU
namespace Go.Proofs.YtoldmigappbjcaaGreatDoor
open Go.RowKit Go.GrainU
abbrev WPost (s:ByteArray) (B:Nat) (w:World) (e:Ending) (w':World):Prop :=
 ((∃ t:ET,prs s.data.toList=.ok t.ex∧e=.returned (eval t)∧t.In (cut w.heap.size w'))∨∃ f,prs s.data.toList=.error f∧e=.panicked [thr s f])∧w.grownBy w' (some B)
set_option maxHeartbeats 4000000 in
theorem rwhole_any (s:ByteArray) (B:Nat) (w0 w:World) (h:Rd 95 w B s ⟨s.data.toList,0⟩) (hs63:s.size≤9223372036854775807) (hv:ErrV w0) (hb0:Below w0.heap.size w0 w) (hB0:w0.heap.size≤B) :
  Calls Tryz.prog 38 #[.pointer (some ⟨B,0,none⟩)] w (WPost s B w):=by
 have hB:=h.lt
 obtain ⟨X,hX⟩:∃ X,X=w.heap.size:=⟨_,rfl⟩
 obtain ⟨V,hV⟩:∃ V,V=w.alloc (.cells #[.int .i64 0,.int .i64 0,.int .i64 0,.string ⟨#[]⟩,.slice none 0 0,.slice none 0 0,.slice none 0 0] 41):=⟨_,rfl⟩
 have R0:Rd 95 V B s ⟨s.data.toList,0⟩:=by rw [hV];exact h.alloc _
 have G0:w.grownBy V (some B):=by rw [hV];exact grown_trans (World.grownBy.refl _ _) (World.grownBy_alloc _ _ none) (fun _ hk=>by cases hk)
 have FX0:V.heap[X]?=some (.cells #[.int .i64 0,.int .i64 0,.int .i64 0,.string ⟨#[]⟩,.slice none 0 0,.slice none 0 0,.slice none 0 0] 41 (0,0)):=by rw [hV,hX];exact heap_alloc_new w _
 have hXB:X≠B:=by omega
 have hXw:w.heap.size≤X:=by omega
 have c0:=R0.cells.1
 rw [hV] at c0
 have hlen:s.data.toList.length=s.size:=(size_len s).symm
 have HV:=hide hV
 have HX:=hide hX
 clear hV hX h
 by_cases h1:2000<s.size
 ·have HE:Hid (prs s.data.toList=.error (4,s.size)):=by show _=_;unfold prs;rw [if_pos (by omega),hlen]
  have h1':(2000:Int)<(s.size:Int):=by omega
  clear hlen
  go_enter Tryz.func38,Tryz.ntmps38
  go_wp2_with fail
  refine (throw_any _ _ _).mono ?_
  intro e w2 hh
  rw [hh.1,hh.2]
  clear hh
  go_wp2_with fail
  rw [← HV.out]
  exact ⟨rfl,.inr ⟨_,HE.out,by simp [thr]⟩,G0⟩
 ·have h1':¬ (2000:Int)<(s.size:Int):=by omega
  have hs:s.size≤2000:=by omega
  have HP:Hid (∀ t:ET,∀ q:St,smm (fct 20) ⟨s.data.toList,0⟩=.ok (t.ex,q)→prs s.data.toList=(if skip q.r≠[] then .error (2,(skip q.r).length) else if dpr t.ex 20=true then .error (4,0) else .ok t.ex)):=by
   intro t q hq
   unfold prs
   rw [if_neg (by omega),hq]
  have HPE:Hid (∀ f,smm (fct 20) ⟨s.data.toList,0⟩=.error f→prs s.data.toList=.error f):=by
   intro f hf
   unfold prs
   rw [if_neg (by omega),hf]
  have HSC:=hide (sum_any s ⟨s.data.toList,0⟩ B w0 V R0 hs (by simp) hv (hb0.grown G0 hb0.size (fun j hj=>by cases hj;exact hB0)) hB0)
  obtain ⟨S,hS⟩:∃ S,S=V.heap.size:=⟨_,rfl⟩
  have hXS:X<S:=by rw [hS];exact lt_of_block FX0
  have hBS:B<S:=by rw [hS];exact R0.lt
  unfold EPost at HSC;rw [← hS] at HSC
  have HS:=hide hS
  clear hS hlen h1 hv hb0
  go_enter Tryz.func38,Tryz.ntmps38
  go_wp2_with fail
  rw [← HV.out,← HX.out]
  refine HSC.out.mono ?_
  rintro e w2 ⟨⟨t,q,hx,rfl,IN2,R2,hq⟩ | ⟨f,hf,rfl⟩,g⟩
  rotate_left
  ·have HE:=hide (HPE.out f hf)
   have G:=grown_trans G0 g (fun _ hk=>.inl hk)
   clear hf
   go_wp2_with fail
   exact ⟨rfl,.inr ⟨_,HE.out,rfl⟩,G⟩
  have HPR:=hide (HP.out t q hx)
  have G2:=grown_trans G0 g (fun _ hk=>.inl hk)
  have FX2:=grown_block g FX0 hXB
  have hS2:S≤w2.heap.size:=by have:=g.size;have:=HS.out;omega
  clear g hx G0 FX0 R0 HSC c0 HP HPE
  obtain ⟨Y,hY⟩:∃ Y,Y=w2.heap.size:=⟨_,rfl⟩
  have hYB:Y≠B:=by omega
  obtain ⟨w3,hw3⟩:∃ v,v=w2.alloc (.cells #[.int .i64 t.hd.kind,.int .i64 t.hd.n,.int .i64 t.hd.range,.string t.hd.word,.slice t.sp.ma t.hd.ms.length t.sp.mc,.slice t.sp.ba t.hd.bs.length t.sp.bc,.slice t.sp.ka t.kids.length t.sp.kc] 41):=⟨_,rfl⟩
  have R3:Rd 95 w3 B s q:=by rw [hw3];exact R2.alloc _
  have G3:w.grownBy w3 (some B):=by rw [hw3];exact grown_trans G2 (World.grownBy_alloc _ _ none) (fun _ hk=>by cases hk)
  have FX3:w3.heap[X]?=some (.cells #[.int .i64 0,.int .i64 0,.int .i64 0,.string ⟨#[]⟩,.slice none 0 0,.slice none 0 0,.slice none 0 0] 41 (0,0)):=by rw [hw3,Below.heap_alloc _ _ _ (by omega)];exact FX2
  have FY3:w3.heap[Y]?=some (.cells #[.int .i64 t.hd.kind,.int .i64 t.hd.n,.int .i64 t.hd.range,.string t.hd.word,.slice t.sp.ma t.hd.ms.length t.sp.mc,.slice t.sp.ba t.hd.bs.length t.sp.bc,.slice t.sp.ka t.kids.length t.sp.kc] 41 (0,0)):=by rw [hw3,hY];exact heap_alloc_new w2 _
  have IN3:t.In (cut S w3):=by rw [hw3];exact IN2.grown (B:=B) (grown_trans (World.grownBy.refl _ _) (World.grownBy_alloc _ _ none) (fun _ hk=>by cases hk)) hBS
  have HW3:=hide hw3
  have HY:=hide hY
  clear hw3 hY R2 G2 FX2 IN2
  obtain ⟨c0,c1,c2⟩:=R3.cells
  have hsuf:=(skip_suf q.r).trans R3.suf
  have hpl:=pos_lt hsuf
  have HBG:=hide (rbegin_any s q B w3 R3 hs)
  obtain ⟨K,hK⟩:∃ K,K=pos s (skip q.r):=⟨_,rfl⟩
  rw [← hK] at HBG hpl
  have HK:=hide hK
  have hsuf':=suf_len hsuf
  clear hK hsuf c1 c2
  obtain ⟨y0,y1,y2,y3,y4,y5,y6⟩:=seven_cells FY3
  unfold eval
  go_wp2_with fail
  rw [← HW3.out,← HY.out]
  refine HBG.out.mono ?_
  intro e w4 hh
  rw [hh.1,hh.2]
  clear hh HBG
  by_cases h2:K<s.size
  ·have HE:Hid (prs s.data.toList=.error (2,(skip q.r).length)):=by show _=_;rw [HPR.out,if_pos (hpl.1 h2)]
   have h2':(K:Int)<(s.size:Int):=by omega
   clear hpl
   go_wp2_with fail
   refine (throw_any _ _ w3).mono ?_
   intro e w5 hh
   rw [hh.1,hh.2]
   clear hh
   go_wp2_with fail
   exact ⟨rfl,.inr ⟨_,HE.out,by rw [HK.out];rfl⟩,G3⟩
  ·have h2':¬ (K:Int)<(s.size:Int):=by omega
   have hnil:skip q.r=[]:=by
    rcases Classical.em (skip q.r=[]) with e | e
    ·exact e
    ·exact absurd (hpl.2 e) h2
   have HKS:Hid (K=s.size):=by show _=_;rw [HK.out,hnil];simp [pos]
   have HDP:=hide (deeper_any t 20 w3 (ET.In.whole IN3) (by omega))
   have HPR2:Hid (prs s.data.toList=if dpr t.ex 20=true then .error (4,0) else .ok t.ex):=by show _=_;rw [HPR.out,if_neg (by rw [hnil];simp)]
   unfold eval at HDP
   clear hpl hnil HPR
   rw [show ((20:Nat):Int)=20 from rfl] at HDP
   go_wp2_with fail
   refine HDP.out.mono ?_
   rintro e w5 ⟨rfl,b5⟩
   have G5:w.grownBy w5 (some B):=grown_trans G3 (grown_of_below b5) (fun _ hk=>by cases hk)
   have FX5:=below_block b5 FX3
   have FY5:=below_block b5 FY3
   have IN5:t.In (cut S w5):=IN3.grown (B:=B) (grown_trans (World.grownBy.refl _ _) (grown_of_below b5) (fun _ hk=>by cases hk)) hBS
   clear y0 y1 y2 y3 y4 y5 y6 b5 G3 FX3 FY3 IN3 HDP c0
   obtain ⟨y0,y1,y2,y3,y4,y5,y6⟩:=seven_cells FY5
   cases hd:dpr t.ex 20 with
   | true =>
    have HE:Hid (prs s.data.toList=.error (4,0)):=by show _=_;rw [HPR2.out,hd];rfl
    clear hd HPR2
    go_wp2_with fail
    refine (throw_any _ _ w5).mono ?_
    intro e w6 hh
    rw [hh.1,hh.2]
    clear hh
    go_wp2_with fail
    exact ⟨rfl,.inr ⟨_,HE.out,by rw [HKS.out];simp [thr]⟩,G5⟩
   | false =>
    have HE:Hid (prs s.data.toList=.ok t.ex):=by show _=_;rw [HPR2.out,hd];rfl
    obtain ⟨z0,z1,z2,z3,z4,z5,z6⟩:=seven_cells FX5
    obtain ⟨u0,u1,u2,u3,u4,u5,u6⟩:=thaw7 FX5
    have HGF:=hide (put7_grown (t:=t) G5 (X:=X) hXw)
    have HIN:=hide (ET.In.low (b':=w.heap.size) (by omega) t (put7_in (t:=t) IN5 (X:=X) (by omega)))
    clear hd HPR2 G5 FX5 FY5 IN5
    unfold put7 at HGF HIN
    go_wp2
    exact bodyPost_ret (v:=eval t) (by simp [eval,results,Tryz.results38,go_sem,z0,z1,z2,z3,z4,z5,z6]) rfl ⟨.inl ⟨t,HE.out,rfl,HIN.out⟩,HGF.out⟩
theorem assert_thrown (W:World) (v:Value):(Instr.typeAssert (.iface 121 v) 20 121 true).run Tryz.prog W=.ok (.tuple #[v,.bool true]) W:=by kernel_rfl
set_option maxRecDepth 20000 in
set_option maxHeartbeats 1000000 in
theorem caught_any (a b:Int) (w:World) :
  Calls Tryz.prog 37 #[.iface 121 (.agg #[.int .i64 a,.int .i64 b])] w fun e w'=>e=.returned (.agg #[.int .i64 a,.int .i64 b])∧Below w.heap.size w w':=by
 have hta:=assert_thrown
 go_enter Tryz.func37,Tryz.ntmps37
 go_wp2
 exact bodyPost_ret (v:=.agg #[.int .i64 a,.int .i64 b]) (by simp [results,Tryz.results37,go_sem]) rfl ⟨rfl,((Below.refl _ _).alloc (Nat.le_refl _) _).alloc (by simp) _⟩
end Go.Proofs.YtoldmigappbjcaaGreatDoor
