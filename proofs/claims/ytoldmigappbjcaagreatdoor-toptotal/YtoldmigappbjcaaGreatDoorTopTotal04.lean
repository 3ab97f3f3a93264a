import Derived.Laws.IdiomStrings
import Derived.Test.YtoldmigappbjcaaGreatDoorTopTotal02
import Derived.Test.YtoldmigappbjcaaGreatDoorTopTotal03
namespace Go.GrainU
open Go.RowKit
def sumZ (l:List Int):Int:=l.foldl (· + ·) 0
def mostZ:List Int→Int
 | []=>0
 | v::r=>r.foldl max v
theorem sumZ_snoc (l:List Int) (v:Int):sumZ (l++[v])=sumZ l+v:=by simp [sumZ]
theorem mostZ_snoc:∀ (l:List Int) (v:Int),mostZ (l++[v])=if l.length=0 then v else max (mostZ l) v
 | [],v=>rfl
 | x::r,v=>by simp [mostZ]
end Go.GrainU
namespace Go.Proofs.YtoldmigappbjcaaGreatDoor
open Go.RowKit Go.GrainU
theorem seg_int1 {w:World} {ao:Option Addr} {l:List Int} (h:Seg w ao (icells l)) {k:Nat} (hk:k<l.length) :
  ∃ b off,ao=some ⟨b,off,none⟩∧b<w.heap.size∧w.cell? ⟨b,off+k,none⟩=some (.int .i64 l[k]):=by
 rcases h with h0 | ⟨b,off,h1,h2⟩
 ·have:l.length=0:=by simpa [icells] using congrArg List.length h0
  omega
 ·have h3:=h2 k (by simpa [icells] using hk)
  have h4:w.cell? ⟨b,off+k,none⟩=some (.int .i64 l[k]):=by rw [h3];simp [icells,List.getElem?_eq_getElem hk]
  exact ⟨b,off,h1,World.block_lt_of_cell? w _ h4,h4⟩
theorem own_someT {w:World} {base e size n c:Nat} {ao:Option Addr} {xs:List Value} (h:w.ownsRow base e size (.slice ao n c) n xs) (hn:0<n):∃ g,ao=some ⟨g,0,none⟩:=by
 rcases h.2 with ⟨hv,_⟩ | ⟨g,cap,cur,hv,_⟩
 ·injection hv with h1 h2 h3
  omega
 ·injection hv with h1 h2 h3
  exact ⟨g,h1⟩
theorem ct_one {cts:List CT} {s:Lb} {v:Int} (h:cls cts=[(s,v)]):(ct cts 0).v=v:=by
 match cts,h with
 | [c],h =>
  simp [cls,CT.cl] at h
  simp [ct,h.2]
set_option maxRecDepth 20000 in
set_option maxHeartbeats 8000000 in
theorem ttot_any (l:List Int) (T:Int) (ao:Option Addr) (n cap:Nat) (w:World) (hs:Seg w ao (icells l)) (hn:n=l.length) (_hcap:n≤cap∧cap≤9223372036854775807) (_hnil:ao=none→n=0∧cap=0) (hT:Tab w) (hv:ErrV w) (_h63:n≤9223372036854775806) :
  Calls Tryz.prog 10 #[.slice ao n cap,.int .i64 T] w fun e w'=>e=.returned (.bool true)∧Below w.heap.size w w':=by
 obtain ⟨i0,hi,hz0,hz1,hz2⟩:=sinfo_parts Tryz.infoDo
 have P0:=hide (talive_any w hv)
 have HS:=hide hs
 have HN:=hide hn
 have HV:=hide hv
 have HT:=hide hT
 clear hs hn hv hT
 go_enter Tryz.func10,Tryz.ntmps10
 go_wp2_with fail
 refine P0.out.mono ?_
 rintro e w1 ⟨rfl,b1⟩
 clear P0
 by_cases h8:8<n
 ·have h8i:(8:Int)<(n:Int):=by omega
  go_wp2
  go_ret
  exact ⟨rfl,b1⟩
 have d8:decide ((8:Int)<(n:Int))=false:=by simp;omega
 by_cases hn0:n=0
 ·subst hn0
  go_wp2
  go_ret
  exact ⟨rfl,b1⟩
 have dn:((n:Int) == 0)=false:=by simp;omega
 by_cases ht1:T<1
 ·go_wp2
  go_ret
  exact ⟨rfl,b1⟩
 have dt:decide (T<1)=false:=by simpa using ht1
 by_cases ht2:1000<T
 ·go_wp2
  go_ret
  exact ⟨rfl,b1⟩
 have dt2:decide (1000<T)=false:=by simpa using ht2
 have t1:1≤T:=by omega
 have t2:T≤1000:=by omega
 have h8':n≤8:=by omega
 obtain ⟨W1,hW1⟩:∃ W1,W1=w1:=⟨_,rfl⟩
 rw [← hW1] at b1 ⊢
 clear hW1 ht1 ht2 h8
 go_wp2
 go_loopw [5,6,7,33] (fun mv sv xv i wr=>∃ (k d:Nat) (go:Option Addr) (ds:List DT) (sm mo:Int),k≤n∧i=.int .i64 k∧mv=.slice go k d∧sv=.int .i64 sm∧xv=.int .i64 mo∧Hid (sm=sumZ (l.take k))∧Hid (mo=mostZ (l.take k))∧-(1000*(k:Int))≤sm∧sm≤1000*(k:Int)∧wr.ownsRow W1.heap.size 36 7 (.slice go k d) k (dcells ds)∧Hid (dns ds=totD (T-1) 0 (l.take k))∧Dls wr ds∧Hid (∀ v∈l.take k,-1000≤v∧v≤1000)∧Below W1.heap.size W1 wr) (fun _ _ _ i _=>n-(intOf i).toNat)
 case atStart=>exact ⟨0,0,none,[],0,0,Nat.zero_le _,rfl,rfl,rfl,rfl,rfl,rfl,by omega,by omega,by simpa [dcells] using World.ownsRow_nil _ _ _ _,rfl,fun x hx=>(by cases hx),fun v hv=>(by simp at hv),Below.refl _ _⟩
 case round =>
  obtain ⟨k,d,go,ds,sm,mo,hk,rfl,rfl,rfl,rfl,HSm,HMo,sb1,sb2,own,HD,dls,HB,bel⟩:=hrel
  by_cases hlt:k<n
  ·have hkl:k<l.length:=by rw [← HN.out];exact hlt
   obtain ⟨bb,off,rfl,hbb,c0⟩:=seg_int1 HS.out hkl
   have belw:=below_step bel b1
   obtain ⟨v,hv⟩:∃ v,v=l[k]:=⟨_,rfl⟩
   have k0:wr.cell? ⟨bb,off+k,none⟩=some (.int .i64 v):=by rw [hv];exact (belw.cell (p:=⟨bb,_,none⟩) hbb).trans c0
   have hki:(k:Int)<(n:Int):=by omega
   have hk1:l.take (k+1)=l.take k++[v]:=by rw [List.take_add_one,List.getElem?_eq_getElem hkl,hv];rfl
   have HK1:=hide hk1
   clear c0 hv hk1
   by_cases hv1:v < -1000
   ·have HBx:=hide belw
    clear own dls bel HD HB
    go_wp2
    go_ret
    exact ⟨rfl,HBx.out⟩
   have dv1:decide (v < -1000)=false:=by simpa using hv1
   by_cases hv2:1000<v
   ·have HBx:=hide belw
    clear own dls bel HD HB
    go_wp2
    go_ret
    exact ⟨rfl,HBx.out⟩
   have dv2:decide (1000<v)=false:=by simpa using hv2
   have hvb : -1000≤v∧v≤1000:=by omega
   obtain ⟨hb,hhb⟩:∃ hb,hb=hB k:=⟨_,rfl⟩
   have hcv:Sem.run Tryz.prog (convert 84 9 (.slice (some ⟨wr.heap.size,0,none⟩) 1 1)) (wr.alloc (.cells #[.int .u8 (97+(k:Int))] 5))=.ok (.string hb) (wr.alloc (.cells #[.int .u8 (97+(k:Int))] 5)):=by
    have h1:=run_convert_bytes_back (P:=Tryz.prog) (wr.alloc (.cells #[.int .u8 (97+(k:Int))] 5)) 84 9 5 ⟨wr.heap.size,0,none⟩ 1 [UInt8.ofNat (97+k)] (by kernel_rfl) (by kernel_rfl) (by kernel_rfl) (fun j hj=>by
     have hj0:j=0:=by simpa using hj
     subst hj0
     have h2:(UInt8.ofNat (97+k)).toNat=97+k:=by
      simp
      omega
     have h3:=heap_alloc_new wr (.cells #[.int .u8 (97+(k:Int))] 5)
     simp only [List.getElem_cons_zero,h2]
     rw [show (⟨wr.heap.size,0,none⟩:Addr).add 0=⟨wr.heap.size,0,none⟩ from rfl]
     exact (fun (V':World) (h:V'.heap[wr.heap.size]?=some (.cells #[.int .u8 (97+(k:Int))] 5 (0,0)))=>(by simp [World.cell?,h]:V'.cell? ⟨wr.heap.size,0,none⟩=some (.int .u8 (97+(k:Int))))) _ h3)
    rw [hhb]
    exact h1
   have hhs:hb.size≤9223372036854775807:=by rw [hhb];show (1:Nat)≤_;decide
   have HD2:Hid (totD (T-1) 0 (l.take (k+1))=totD (T-1) 0 (l.take k)++[dAdd hb (T-1) v]):=by
    show _=_
    rw [HK1.out,totD_snoc,hhb,show 0+(l.take k).length=k from by simp;omega]
   have HS2:Hid (sm+v=sumZ (l.take (k+1))):=by show _=_;rw [HK1.out,sumZ_snoc,HSm.out]
   have HM2:Hid (mostZ (l.take (k+1))=if k=0 then v else max mo v):=by
    show _=_
    rw [HK1.out,mostZ_snoc,HMo.out,show (l.take k).length=k from by simp;omega]
   have HB2:Hid (∀ x∈l.take (k+1),-1000≤x∧x≤1000):=fun x hx=>by
    rw [HK1.out] at hx
    rcases List.mem_append.1 hx with e | e
    ·exact HB.out x e
    ·simp at e;rw [e];exact hvb
   have bV:Below wr.heap.size wr (wr.alloc (.cells #[.int .u8 (97+(k:Int))] 5)):=(Below.refl _ _).alloc (Nat.le_refl _) _
   obtain ⟨V,hV⟩:∃ V,V=wr.alloc (.cells #[.int .u8 (97+(k:Int))] 5):=⟨_,rfl⟩
   rw [← hV] at bV
   have own:=own_below own bV
   have dls:=dls.below bV
   have bel:=below_step bV bel
   have PA:=hide (tadd_blk hb (T-1) v V)
   have HV1:=hide hV
   have s1:wrap64 (T-1)=T-1:=by unfold wrap64;omega
   have s2:wrap64 (sm+v)=sm+v:=by unfold wrap64;omega
   clear hhb hV bV HSm HK1 HB
   go_upto_region 12 with fail
   go_wp2_with fail
   rw [← HV1.out]
   refine PA.out.mono ?_
   rintro e w2 ⟨S,rfl,hS,b2⟩
   have own:=own_below own b2
   have dls:=dls.below b2
   have bel:=below_step b2 bel
   clear PA b2 hcv
   obtain ⟨U,hU⟩:∃ U,U=w2.alloc (.cells #[.int .i64 1,.int .i64 0,.int .i64 0,.slice (some ⟨S,0,none⟩) 1 1,.int .i64 (T-1),.int .i64 v,.string ⟨#[]⟩] 36):=⟨_,rfl⟩
   have bU:Below w2.heap.size w2 U:=by rw [hU];exact (Below.refl _ _).alloc (Nat.le_refl _) _
   have ownU:=own_below own bU
   have dlsU:=dls.below bU
   have belU:=below_step bU bel
   have HNB:Hid (∀ j u,[Value.int .i64 1,.int .i64 0,.int .i64 0,.slice (some ⟨S,0,none⟩) 1 1,.int .i64 (T-1),.int .i64 v,.string ⟨#[]⟩][j]?=some u→U.cell? ((⟨w2.heap.size,0,none⟩:Addr).add j)=some u):=by
    refine seg_news ?_
    rw [hU]
    have:=seg_new w2 #[.int .i64 1,.int .i64 0,.int .i64 0,.slice (some ⟨S,0,none⟩) 1 1,.int .i64 (T-1),.int .i64 v,.string ⟨#[]⟩] 36
    simpa using this
   have H1:Hid (∀ u∈[Value.int .i64 1,.int .i64 0,.int .i64 0,.slice (some ⟨S,0,none⟩) 1 1,.int .i64 (T-1),.int .i64 v,.string ⟨#[]⟩],u.oneCell'=true):=by
    intro u hu
    simp only [List.mem_cons,List.not_mem_nil,or_false] at hu
    rcases hu with e | e | e | e | e | e | e <;> (subst e;rfl)
   have hs2:U.heap.size=w2.heap.size+1:=by rw [hU];simp
   have hws:W1.heap.size≤U.heap.size:=belU.size
   have HU:=hide hU
   have hSU:=below_block bU hS
   clear own dls bel hU bU
   go_wp2_with (rw [← HU.out];at_builtin;refine wpList_append_lies _ rfl _ _ 22 rfl W1.heap.size 36 i0 (.agg #[.int .i64 0,.int .i64 0,.int .i64 0,.slice none 0 0,.int .i64 0,.int .i64 0,.string ⟨#[]⟩]) 7 80 Tryz.underlying22 hi hz0 hz1 hz2 rfl (by decide) _ _ _ rfl ownU ⟨w2.heap.size,0,none⟩ 1 1 [Value.int .i64 1,.int .i64 0,.int .i64 0,.slice (some ⟨S,0,none⟩) 1 1,.int .i64 (T-1),.int .i64 v,.string ⟨#[]⟩] rfl rfl HNB.out H1.out (by decide) (by unfold maxLen;omega) (by omega) hws (w2.heap.size+1) hs2 ?_)
   intro g3 cp3 wz3 ownZ grZ hatZ hltZ
   have own:wz3.ownsRow W1.heap.size 36 7 (.slice (some ⟨g3,0,none⟩) (k+1) cp3) (k+1) (dcells (ds++[⟨dAdd hb (T-1) v,some ⟨S,0,none⟩,1⟩])):=by
    rw [dcells_append]
    exact ownZ
   have dls:Dls wz3 (ds++[⟨dAdd hb (T-1) v,some ⟨S,0,none⟩,1⟩]):=(dlsU.row ownU grZ (by decide)).push (.inl ⟨S,hb,T-1,v,rfl,hhs,blk_beside ownU grZ hSU (by decide)⟩)
   have bel:Below W1.heap.size W1 wz3:=belU.grown grZ hws (fun j hj=>(own_base ownU j hj).1)
   clear ownU dlsU belU ownZ grZ hatZ hltZ HNB H1 hs2 hws HU
   have HD3:Hid (dns (ds++[⟨dAdd hb (T-1) v,some ⟨S,0,none⟩,1⟩])=totD (T-1) 0 (l.take (k+1))):=by
    show _=_
    rw [dns_append,HD.out,HD2.out];rfl
   clear HD HD2 hS
   by_cases hk0:k=0
   ·have HM3:Hid (v=mostZ (l.take (k+1))):=by show _=_;rw [HM2.out,if_pos hk0]
    have ek:((k:Int) == 0)=true:=by simp;omega
    clear HM2 HMo
    go_wp2
    go_roundw
    case rel=>exact ⟨k+1,_,_,_,sm+v,v,by omega,by go_num,rfl,rfl,rfl,HS2,HM3,by push_cast;omega,by push_cast;omega,own,HD3,dls,HB2,bel⟩
    case measure=>simp [intOf];omega
   ·have ek:((k:Int) == 0)=false:=by simp;omega
    by_cases hm:mo<v
    ·have HM3:Hid (v=mostZ (l.take (k+1))):=by show _=_;rw [HM2.out,if_neg hk0];omega
     have dm:decide (mo<v)=true:=by simpa using hm
     clear HM2 HMo
     go_wp2
     go_roundw
     case rel=>exact ⟨k+1,_,_,_,sm+v,v,by omega,by go_num,rfl,rfl,rfl,HS2,HM3,by push_cast;omega,by push_cast;omega,own,HD3,dls,HB2,bel⟩
     case measure=>simp [intOf];omega
    ·have HM3:Hid (mo=mostZ (l.take (k+1))):=by show _=_;rw [HM2.out,if_neg hk0];omega
     have dm:decide (mo<v)=false:=by simpa using hm
     clear HM2 HMo
     go_wp2
     go_roundw
     case rel=>exact ⟨k+1,_,_,_,sm+v,mo,by omega,by go_num,rfl,rfl,rfl,HS2,HM3,by push_cast;omega,by push_cast;omega,own,HD3,dls,HB2,bel⟩
     case measure=>simp [intOf];omega
  ·have he:k=n:=by omega
   subst he
   have htk:l.take k=l:=List.take_of_length_le (by rw [← HN.out];exact Nat.le_refl _)
   have hS1:=HSm.out
   have hM1:=HMo.out
   have hD1:=HD.out
   have hB1:=HB.out
   rw [htk] at hS1 hM1 hD1 hB1
   obtain ⟨v0,r,hl0⟩:∃ v r,l=v::r:=by
    cases l with
    | nil=>exact absurd HN.out hn0
    | cons v r=>exact ⟨v,r,rfl⟩
   have hrl:r.length+1=k:=by rw [HN.out,hl0];rfl
   rw [hl0] at hS1 hM1 hD1 hB1
   have hpu:=tot_pure t1 t2 hB1 (by omega)
   have hS2:sm=r.foldl (· + ·) v0:=by rw [hS1];simp [sumZ]
   have hM2:mo=r.foldl max v0:=hM1
   rw [← hS2,← hM2] at hpu
   obtain ⟨-,z1,z2,z3⟩:=tot_texts t1 t2
   obtain ⟨S,hSS⟩:∃ S,S=itoaB T:=⟨_,rfl⟩
   have PI:=hide (fun (W:World) (hb:Below w.heap.size w W)=>titoa_any T (by omega) (by omega) W (HT.out.below hb))
   rw [← hSS] at PI
   obtain ⟨Qa,hQa⟩:∃ Q,Q=ByteArray.mk #[97,108,108,32,115,117,109,32,40,108,97,115,116,40,123,104,111,115,116,125,91]++S:=⟨_,rfl⟩
   obtain ⟨Q,hQ⟩:∃ Q,Q=Qa++ByteArray.mk #[93,41,41]:=⟨_,rfl⟩
   obtain ⟨Ra,hRa⟩:∃ Q,Q=ByteArray.mk #[97,108,108,32,109,97,120,32,40,108,97,115,116,40,123,104,111,115,116,125,91]++S:=⟨_,rfl⟩
   obtain ⟨R,hRR⟩:∃ Q,Q=Ra++ByteArray.mk #[93,41,41,32,42,32,49]:=⟨_,rfl⟩
   obtain ⟨Za,hZa⟩:∃ Q,Q=ByteArray.mk #[97,108,108,32,99,111,117,110,116,32,98,121,32,104,111,115,116,32,40,115,117,109,40,123,104,111,115,116,33,61,97,125,91]++S:=⟨_,rfl⟩
   obtain ⟨Z,hZZ⟩:∃ Q,Q=Za++ByteArray.mk #[93,41,41]:=⟨_,rfl⟩
   have eQ:qSum T=Q:=by rw [hQ,hQa,hSS];rfl
   have eR:qMax T=R:=by rw [hRR,hRa,hSS];rfl
   have eZ:qCount T=Z:=by rw [hZZ,hZa,hSS];rfl
   rw [eQ] at z1
   rw [eR] at z2
   rw [eZ] at z3
   rw [eQ,eR,eZ] at hpu
   have y1:Qa.size+3=Q.size:=by rw [hQ,ByteArray.size_append];rfl
   have y2:21+S.size=Qa.size:=by rw [hQa,ByteArray.size_append];rfl
   have y3:Ra.size+7=R.size:=by rw [hRR,ByteArray.size_append];rfl
   have y4:21+S.size=Ra.size:=by rw [hRa,ByteArray.size_append];rfl
   have y5:Za.size+3=Z.size:=by rw [hZZ,ByteArray.size_append];rfl
   have y6:33+S.size=Za.size:=by rw [hZa,ByteArray.size_append];rfl
   have A1:=sadd (P:=Tryz.prog) hQa (by show 21+S.size≤_;omega)
   have A2:=sadd (P:=Tryz.prog) hQ (by show Qa.size+3≤_;omega)
   have A3:=sadd (P:=Tryz.prog) hRa (by show 21+S.size≤_;omega)
   have A4:=sadd (P:=Tryz.prog) hRR (by show Ra.size+7≤_;omega)
   have A5:=sadd (P:=Tryz.prog) hZa (by show 33+S.size≤_;omega)
   have A6:=sadd (P:=Tryz.prog) hZZ (by show Za.size+3≤_;omega)
   have HQs:Hid (Q.size≤9223372036854775807):=by show _≤_;omega
   have HRs:Hid (R.size≤9223372036854775807):=by show _≤_;omega
   have HZs:Hid (Z.size≤9223372036854775807):=by show _≤_;omega
   have HPu:=hide hpu
   have bw:=below_step bel b1
   have HX:Hid (dns ds=totD (T-1) 0 (v0::r)):=hD1
   have hxl:ds.length=k:=by have:=own.1;rw [dcells_length] at this;omega
   have HXl:=hide hxl
   obtain ⟨g,hg⟩:=own_someT own (by omega)
   subst hg
   have ownM:=own
   have dlsM:=dls
   obtain ⟨W7,hW7⟩:∃ W7,W7=wr:=⟨_,rfl⟩
   rw [← hW7] at ownM dlsM bw ⊢
   have hk1:0<k:=by omega
   clear htk hS1 hM1 hD1 hB1 hpu hS2 hM2 z1 z2 z3 hSS hQa hQ hRa hRR hZa hZZ eQ eR eZ y1 y2 y3 y4 y5 y6 HSm HMo HD HB own dls bel hxl hW7 hl0
   obtain ⟨U,hU⟩:∃ U,U=W7.alloc (.cells #[] 36):=⟨_,rfl⟩
   have bU:Below W7.heap.size W7 U:=by rw [hU];exact (Below.refl _ _).alloc (Nat.le_refl _) _
   have ownE:U.ownsRow W7.heap.size 36 7 (.slice (some ⟨W7.heap.size,0,none⟩) 0 0) 0 []:=by rw [hU];exact World.ownsRow_made W7 #[] 0 (Nat.le_refl _) (by decide) rfl
   have HNB:=hide (seg_news (own_seg (own_below ownM bU)))
   have hml:(dcells ds).length=k*7:=ownM.1
   have HD1:=hide (dcells_one ds)
   have hs2:U.heap.size=W7.heap.size+1:=by rw [hU];simp
   have hws:W7.heap.size≤U.heap.size:=bU.size
   have HU:=hide hU
   have HBU:=hide bU
   clear hU bU
   go_wp2_with (rw [← HU.out];at_builtin;refine wpList_append_lies _ rfl _ _ 22 rfl W7.heap.size 36 i0 (.agg #[.int .i64 0,.int .i64 0,.int .i64 0,.slice none 0 0,.int .i64 0,.int .i64 0,.string ⟨#[]⟩]) 7 80 Tryz.underlying22 hi hz0 hz1 hz2 rfl (by decide) _ _ _ rfl ownE ⟨g,0,none⟩ (k) d (dcells ds) rfl hml HNB.out HD1.out (by omega) (by unfold maxLen;omega) (by omega) hws (W7.heap.size+1) hs2 ?_)
   intro ga1 cpa1 wza1 ownZ grZ hatZ hltZ
   have own:wza1.ownsRow W7.heap.size 36 7 (.slice (some ⟨ga1,0,none⟩) (k) cpa1) (k) (dcells ds):=ownZ
   have bel:Below W7.heap.size W7 wza1:=HBU.out.grown grZ hws (fun j hj=>(own_base ownE j hj).1)
   have dls:=dlsM.below bel
   clear ownE ownZ grZ hatZ hltZ HNB HD1 hs2 hws HU HBU hml
   have PX:=hide (PI.out wza1 (below_step bel bw))
   go_wp2_with fail
   refine PX.out.mono ?_
   rintro e wi1 ⟨rfl,bi⟩
   have own:=own_below own bi
   have dls:=dls.below bi
   have bel:=below_step bi bel
   clear PX bi
   go_wp2_with fail
   refine (task_any Q T wi1).mono ?_
   rintro e wk1 ⟨rfl,bk⟩
   have own:=own_below own bk
   have dls:=dls.below bk
   have bel:=below_step bk bel
   clear bk
   obtain ⟨U,hU⟩:∃ U,U=wk1.alloc (.cells #[.int .i64 4,.int .i64 0,.int .i64 T,.slice none 0 0,.int .i64 0,.int .i64 0,.string Q] 36):=⟨_,rfl⟩
   have bU:Below wk1.heap.size wk1 U:=by rw [hU];exact (Below.refl _ _).alloc (Nat.le_refl _) _
   have ownU:=own_below own bU
   have dlsU:=dls.below bU
   have belU:=below_step bU bel
   have HNB:Hid (∀ j u,[Value.int .i64 4,.int .i64 0,.int .i64 T,.slice none 0 0,.int .i64 0,.int .i64 0,.string Q][j]?=some u→U.cell? ((⟨wk1.heap.size,0,none⟩:Addr).add j)=some u):=by
    refine seg_news ?_
    rw [hU]
    have:=seg_new wk1 #[.int .i64 4,.int .i64 0,.int .i64 T,.slice none 0 0,.int .i64 0,.int .i64 0,.string Q] 36
    simpa using this
   have H1:Hid (∀ u∈[Value.int .i64 4,.int .i64 0,.int .i64 T,.slice none 0 0,.int .i64 0,.int .i64 0,.string Q],u.oneCell'=true):=by
    intro u hu
    simp only [List.mem_cons,List.not_mem_nil,or_false] at hu
    rcases hu with e | e | e | e | e | e | e <;> (subst e;rfl)
   have hs2:U.heap.size=wk1.heap.size+1:=by rw [hU];simp
   have hws:W7.heap.size≤U.heap.size:=belU.size
   have HU:=hide hU
   clear own dls bel hU bU
   go_wp2_with (rw [← HU.out];at_builtin;refine wpList_append_lies _ rfl _ _ 22 rfl W7.heap.size 36 i0 (.agg #[.int .i64 0,.int .i64 0,.int .i64 0,.slice none 0 0,.int .i64 0,.int .i64 0,.string ⟨#[]⟩]) 7 80 Tryz.underlying22 hi hz0 hz1 hz2 rfl (by decide) _ _ _ rfl ownU ⟨wk1.heap.size,0,none⟩ 1 1 [Value.int .i64 4,.int .i64 0,.int .i64 T,.slice none 0 0,.int .i64 0,.int .i64 0,.string Q] rfl rfl HNB.out H1.out (by decide) (by unfold maxLen;omega) (by omega) hws (wk1.heap.size+1) hs2 ?_)
   intro gb1 cpb1 wzb1 ownZ grZ hatZ hltZ
   have own:wzb1.ownsRow W7.heap.size 36 7 (.slice (some ⟨gb1,0,none⟩) (k+1) cpb1) (k+1) (dcells (ds++[⟨dAsk Q T,none,0⟩])):=by
    rw [dcells_append]
    exact ownZ
   have dls:Dls wzb1 (ds++[⟨dAsk Q T,none,0⟩]):=(dlsU.row ownU grZ (by decide)).push (.inr ⟨_,rfl,rfl,HQs.out⟩)
   have bel:Below W7.heap.size W7 wzb1:=belU.grown grZ hws (fun j hj=>(own_base ownU j hj).1)
   clear ownU dlsU belU ownZ grZ hatZ hltZ HNB H1 hs2 hws HU
   have PL:=hide (last_any (ds++[⟨dAsk Q T,none,0⟩]) (some ⟨gb1,0,none⟩) (k+1) cpb1 wzb1 (own_seg' own) dls.din (by simp [HXl.out]) (HV.out.below (below_step bel bw)))
   have HDs2:Hid (dns (ds++[⟨dAsk Q T,none,0⟩])=totD (T-1) 0 (v0::r)++[dAsk Q T]):=by show _=_;rw [dns_append,HX.out];rfl
   rw [HDs2.out] at PL
   clear own dls HDs2
   go_wp2_with fail
   refine PL.out.mono ?_
   rintro e wl1 ⟨y1,rfl,hy1,hay1,bl⟩
   have bel:=below_step bl bel
   obtain ⟨p1,hp⟩:∃ p,p=y1.a.pos:=⟨_,rfl⟩
   obtain ⟨l1,hl⟩:∃ p,p=y1.cts.length:=⟨_,rfl⟩
   obtain ⟨c1,hc⟩:∃ p,p=y1.a.cost:=⟨_,rfl⟩
   obtain ⟨co1,hco⟩:∃ p,p=y1.co:=⟨_,rfl⟩
   obtain ⟨yc1,hyc⟩:∃ p,p=y1.cap:=⟨_,rfl⟩
   have hE:y1.a.err=0:=by rw [hy1];exact HPu.out.1.1
   rw [hE,← hp,← hl,← hc,← hco,← hyc]
   obtain ⟨X1,hX⟩:∃ X,X=wl1.alloc (.cells #[.int .i64 0,.int .i64 p1,.slice co1 l1 yc1,.int .i64 c1] 48):=⟨_,rfl⟩
   have bX:Below wl1.heap.size wl1 X1:=by rw [hX];exact (Below.refl _ _).alloc (Nat.le_refl _) _
   have AX1:X1.heap[wl1.heap.size]?=some (.cells #[.int .i64 0,.int .i64 p1,.slice co1 l1 yc1,.int .i64 c1] 48 (0,0)):=by rw [hX];exact heap_alloc_new wl1 _
   have belX1:=below_step bX bel
   have ownM:=own_below ownM belX1
   have dlsM:=dlsM.below belX1
   have bw1:=below_step belX1 bw
   have HCs1:=hide (And.intro hay1.cs (And.intro hy1 hl))
   have cs1:CsIn X1 co1 y1.cts:=by rw [hco];exact (hay1.below bX).inn
   obtain ⟨Y1,hY⟩:∃ Y,Y=wl1.heap.size:=⟨_,rfl⟩
   rw [← hY] at AX1
   have HXX1:=hide hX
   have HYY1:=hide hY
   clear PL bl hE hp hl hc hco hyc hX bX bel hY hay1 hy1
   go_upto_region 18 with fail
   rw [← HXX1.out,← HYY1.out]
   obtain ⟨U,hU⟩:∃ U,U=X1.alloc (.cells #[] 36):=⟨_,rfl⟩
   have bU:Below X1.heap.size X1 U:=by rw [hU];exact (Below.refl _ _).alloc (Nat.le_refl _) _
   have ownE:U.ownsRow X1.heap.size 36 7 (.slice (some ⟨X1.heap.size,0,none⟩) 0 0) 0 []:=by rw [hU];exact World.ownsRow_made X1 #[] 0 (Nat.le_refl _) (by decide) rfl
   have HNB:=hide (seg_news (own_seg (own_below ownM bU)))
   have hml:(dcells ds).length=k*7:=ownM.1
   have HD1:=hide (dcells_one ds)
   have hs2:U.heap.size=X1.heap.size+1:=by rw [hU];simp
   have hws:X1.heap.size≤U.heap.size:=bU.size
   have HU:=hide hU
   have HBU:=hide bU
   clear hU bU
   go_wp2_with (rw [← HU.out];at_builtin;refine wpList_append_lies _ rfl _ _ 22 rfl X1.heap.size 36 i0 (.agg #[.int .i64 0,.int .i64 0,.int .i64 0,.slice none 0 0,.int .i64 0,.int .i64 0,.string ⟨#[]⟩]) 7 80 Tryz.underlying22 hi hz0 hz1 hz2 rfl (by decide) _ _ _ rfl ownE ⟨g,0,none⟩ (k) d (dcells ds) rfl hml HNB.out HD1.out (by omega) (by unfold maxLen;omega) (by omega) hws (X1.heap.size+1) hs2 ?_)
   intro ga2 cpa2 wza2 ownZ grZ hatZ hltZ
   have own:wza2.ownsRow X1.heap.size 36 7 (.slice (some ⟨ga2,0,none⟩) (k) cpa2) (k) (dcells ds):=ownZ
   have bel:Below X1.heap.size X1 wza2:=HBU.out.grown grZ hws (fun j hj=>(own_base ownE j hj).1)
   have dls:=dlsM.below bel
   clear ownE ownZ grZ hatZ hltZ HNB HD1 hs2 hws HU HBU hml
   have PX:=hide (PI.out wza2 (below_step bel bw1))
   go_wp2_with fail
   refine PX.out.mono ?_
   rintro e wi2 ⟨rfl,bi⟩
   have own:=own_below own bi
   have dls:=dls.below bi
   have bel:=below_step bi bel
   clear PX bi
   go_wp2_with fail
   refine (task_any R T wi2).mono ?_
   rintro e wk2 ⟨rfl,bk⟩
   have own:=own_below own bk
   have dls:=dls.below bk
   have bel:=below_step bk bel
   clear bk
   obtain ⟨U,hU⟩:∃ U,U=wk2.alloc (.cells #[.int .i64 4,.int .i64 0,.int .i64 T,.slice none 0 0,.int .i64 0,.int .i64 0,.string R] 36):=⟨_,rfl⟩
   have bU:Below wk2.heap.size wk2 U:=by rw [hU];exact (Below.refl _ _).alloc (Nat.le_refl _) _
   have ownU:=own_below own bU
   have dlsU:=dls.below bU
   have belU:=below_step bU bel
   have HNB:Hid (∀ j u,[Value.int .i64 4,.int .i64 0,.int .i64 T,.slice none 0 0,.int .i64 0,.int .i64 0,.string R][j]?=some u→U.cell? ((⟨wk2.heap.size,0,none⟩:Addr).add j)=some u):=by
    refine seg_news ?_
    rw [hU]
    have:=seg_new wk2 #[.int .i64 4,.int .i64 0,.int .i64 T,.slice none 0 0,.int .i64 0,.int .i64 0,.string R] 36
    simpa using this
   have H1:Hid (∀ u∈[Value.int .i64 4,.int .i64 0,.int .i64 T,.slice none 0 0,.int .i64 0,.int .i64 0,.string R],u.oneCell'=true):=by
    intro u hu
    simp only [List.mem_cons,List.not_mem_nil,or_false] at hu
    rcases hu with e | e | e | e | e | e | e <;> (subst e;rfl)
   have hs2:U.heap.size=wk2.heap.size+1:=by rw [hU];simp
   have hws:X1.heap.size≤U.heap.size:=belU.size
   have HU:=hide hU
   clear own dls bel hU bU
   go_wp2_with (rw [← HU.out];at_builtin;refine wpList_append_lies _ rfl _ _ 22 rfl X1.heap.size 36 i0 (.agg #[.int .i64 0,.int .i64 0,.int .i64 0,.slice none 0 0,.int .i64 0,.int .i64 0,.string ⟨#[]⟩]) 7 80 Tryz.underlying22 hi hz0 hz1 hz2 rfl (by decide) _ _ _ rfl ownU ⟨wk2.heap.size,0,none⟩ 1 1 [Value.int .i64 4,.int .i64 0,.int .i64 T,.slice none 0 0,.int .i64 0,.int .i64 0,.string R] rfl rfl HNB.out H1.out (by decide) (by unfold maxLen;omega) (by omega) hws (wk2.heap.size+1) hs2 ?_)
   intro gb2 cpb2 wzb2 ownZ grZ hatZ hltZ
   have own:wzb2.ownsRow X1.heap.size 36 7 (.slice (some ⟨gb2,0,none⟩) (k+1) cpb2) (k+1) (dcells (ds++[⟨dAsk R T,none,0⟩])):=by
    rw [dcells_append]
    exact ownZ
   have dls:Dls wzb2 (ds++[⟨dAsk R T,none,0⟩]):=(dlsU.row ownU grZ (by decide)).push (.inr ⟨_,rfl,rfl,HRs.out⟩)
   have bel:Below X1.heap.size X1 wzb2:=belU.grown grZ hws (fun j hj=>(own_base ownU j hj).1)
   clear ownU dlsU belU ownZ grZ hatZ hltZ HNB H1 hs2 hws HU
   have PL:=hide (last_any (ds++[⟨dAsk R T,none,0⟩]) (some ⟨gb2,0,none⟩) (k+1) cpb2 wzb2 (own_seg' own) dls.din (by simp [HXl.out]) (HV.out.below (below_step bel bw1)))
   have HDs2:Hid (dns (ds++[⟨dAsk R T,none,0⟩])=totD (T-1) 0 (v0::r)++[dAsk R T]):=by show _=_;rw [dns_append,HX.out];rfl
   rw [HDs2.out] at PL
   clear own dls HDs2
   go_wp2_with fail
   refine PL.out.mono ?_
   rintro e wl2 ⟨y2,rfl,hy2,hay2,bl⟩
   have bel:=below_step bl bel
   obtain ⟨p2,hp⟩:∃ p,p=y2.a.pos:=⟨_,rfl⟩
   obtain ⟨l2,hl⟩:∃ p,p=y2.cts.length:=⟨_,rfl⟩
   obtain ⟨c2,hc⟩:∃ p,p=y2.a.cost:=⟨_,rfl⟩
   obtain ⟨co2,hco⟩:∃ p,p=y2.co:=⟨_,rfl⟩
   obtain ⟨yc2,hyc⟩:∃ p,p=y2.cap:=⟨_,rfl⟩
   have hE:y2.a.err=0:=by rw [hy2];exact HPu.out.2.1.1
   rw [hE,← hp,← hl,← hc,← hco,← hyc]
   obtain ⟨X2,hX⟩:∃ X,X=wl2.alloc (.cells #[.int .i64 0,.int .i64 p2,.slice co2 l2 yc2,.int .i64 c2] 48):=⟨_,rfl⟩
   have bX:Below wl2.heap.size wl2 X2:=by rw [hX];exact (Below.refl _ _).alloc (Nat.le_refl _) _
   have AX2:X2.heap[wl2.heap.size]?=some (.cells #[.int .i64 0,.int .i64 p2,.slice co2 l2 yc2,.int .i64 c2] 48 (0,0)):=by rw [hX];exact heap_alloc_new wl2 _
   have belX2:=below_step bX bel
   have ownM:=own_below ownM belX2
   have dlsM:=dlsM.below belX2
   have bw2:=below_step belX2 bw1
   have HCs2:=hide (And.intro hay2.cs (And.intro hy2 hl))
   have cs2:CsIn X2 co2 y2.cts:=by rw [hco];exact (hay2.below bX).inn
   obtain ⟨Y2,hY⟩:∃ Y,Y=wl2.heap.size:=⟨_,rfl⟩
   rw [← hY] at AX2
   have HXX2:=hide hX
   have HYY2:=hide hY
   clear PL bl hE hp hl hc hco hyc hX bX bel hY hay2 hy2
   go_upto_region 19 with fail
   rw [← HXX2.out,← HYY2.out]
   obtain ⟨U,hU⟩:∃ U,U=X2.alloc (.cells #[] 36):=⟨_,rfl⟩
   have bU:Below X2.heap.size X2 U:=by rw [hU];exact (Below.refl _ _).alloc (Nat.le_refl _) _
   have ownE:U.ownsRow X2.heap.size 36 7 (.slice (some ⟨X2.heap.size,0,none⟩) 0 0) 0 []:=by rw [hU];exact World.ownsRow_made X2 #[] 0 (Nat.le_refl _) (by decide) rfl
   have HNB:=hide (seg_news (own_seg (own_below ownM bU)))
   have hml:(dcells ds).length=k*7:=ownM.1
   have HD1:=hide (dcells_one ds)
   have hs2:U.heap.size=X2.heap.size+1:=by rw [hU];simp
   have hws:X2.heap.size≤U.heap.size:=bU.size
   have HU:=hide hU
   have HBU:=hide bU
   clear hU bU
   go_wp2_with (rw [← HU.out];at_builtin;refine wpList_append_lies _ rfl _ _ 22 rfl X2.heap.size 36 i0 (.agg #[.int .i64 0,.int .i64 0,.int .i64 0,.slice none 0 0,.int .i64 0,.int .i64 0,.string ⟨#[]⟩]) 7 80 Tryz.underlying22 hi hz0 hz1 hz2 rfl (by decide) _ _ _ rfl ownE ⟨g,0,none⟩ (k) d (dcells ds) rfl hml HNB.out HD1.out (by omega) (by unfold maxLen;omega) (by omega) hws (X2.heap.size+1) hs2 ?_)
   intro ga3 cpa3 wza3 ownZ grZ hatZ hltZ
   have own:wza3.ownsRow X2.heap.size 36 7 (.slice (some ⟨ga3,0,none⟩) (k) cpa3) (k) (dcells ds):=ownZ
   have bel:Below X2.heap.size X2 wza3:=HBU.out.grown grZ hws (fun j hj=>(own_base ownE j hj).1)
   have dls:=dlsM.below bel
   clear ownE ownZ grZ hatZ hltZ HNB HD1 hs2 hws HU HBU hml
   have PX:=hide (PI.out wza3 (below_step bel bw2))
   go_wp2_with fail
   refine PX.out.mono ?_
   rintro e wi3 ⟨rfl,bi⟩
   have own:=own_below own bi
   have dls:=dls.below bi
   have bel:=below_step bi bel
   clear PX bi
   go_wp2_with fail
   refine (task_any Z T wi3).mono ?_
   rintro e wk3 ⟨rfl,bk⟩
   have own:=own_below own bk
   have dls:=dls.below bk
   have bel:=below_step bk bel
   clear bk
   obtain ⟨U,hU⟩:∃ U,U=wk3.alloc (.cells #[.int .i64 4,.int .i64 0,.int .i64 T,.slice none 0 0,.int .i64 0,.int .i64 0,.string Z] 36):=⟨_,rfl⟩
   have bU:Below wk3.heap.size wk3 U:=by rw [hU];exact (Below.refl _ _).alloc (Nat.le_refl _) _
   have ownU:=own_below own bU
   have dlsU:=dls.below bU
   have belU:=below_step bU bel
   have HNB:Hid (∀ j u,[Value.int .i64 4,.int .i64 0,.int .i64 T,.slice none 0 0,.int .i64 0,.int .i64 0,.string Z][j]?=some u→U.cell? ((⟨wk3.heap.size,0,none⟩:Addr).add j)=some u):=by
    refine seg_news ?_
    rw [hU]
    have:=seg_new wk3 #[.int .i64 4,.int .i64 0,.int .i64 T,.slice none 0 0,.int .i64 0,.int .i64 0,.string Z] 36
    simpa using this
   have H1:Hid (∀ u∈[Value.int .i64 4,.int .i64 0,.int .i64 T,.slice none 0 0,.int .i64 0,.int .i64 0,.string Z],u.oneCell'=true):=by
    intro u hu
    simp only [List.mem_cons,List.not_mem_nil,or_false] at hu
    rcases hu with e | e | e | e | e | e | e <;> (subst e;rfl)
   have hs2:U.heap.size=wk3.heap.size+1:=by rw [hU];simp
   have hws:X2.heap.size≤U.heap.size:=belU.size
   have HU:=hide hU
   clear own dls bel hU bU
   go_wp2_with (rw [← HU.out];at_builtin;refine wpList_append_lies _ rfl _ _ 22 rfl X2.heap.size 36 i0 (.agg #[.int .i64 0,.int .i64 0,.int .i64 0,.slice none 0 0,.int .i64 0,.int .i64 0,.string ⟨#[]⟩]) 7 80 Tryz.underlying22 hi hz0 hz1 hz2 rfl (by decide) _ _ _ rfl ownU ⟨wk3.heap.size,0,none⟩ 1 1 [Value.int .i64 4,.int .i64 0,.int .i64 T,.slice none 0 0,.int .i64 0,.int .i64 0,.string Z] rfl rfl HNB.out H1.out (by decide) (by unfold maxLen;omega) (by omega) hws (wk3.heap.size+1) hs2 ?_)
   intro gb3 cpb3 wzb3 ownZ grZ hatZ hltZ
   have own:wzb3.ownsRow X2.heap.size 36 7 (.slice (some ⟨gb3,0,none⟩) (k+1) cpb3) (k+1) (dcells (ds++[⟨dAsk Z T,none,0⟩])):=by
    rw [dcells_append]
    exact ownZ
   have dls:Dls wzb3 (ds++[⟨dAsk Z T,none,0⟩]):=(dlsU.row ownU grZ (by decide)).push (.inr ⟨_,rfl,rfl,HZs.out⟩)
   have bel:Below X2.heap.size X2 wzb3:=belU.grown grZ hws (fun j hj=>(own_base ownU j hj).1)
   clear ownU dlsU belU ownZ grZ hatZ hltZ HNB H1 hs2 hws HU
   have PL:=hide (last_any (ds++[⟨dAsk Z T,none,0⟩]) (some ⟨gb3,0,none⟩) (k+1) cpb3 wzb3 (own_seg' own) dls.din (by simp [HXl.out]) (HV.out.below (below_step bel bw2)))
   have HDs2:Hid (dns (ds++[⟨dAsk Z T,none,0⟩])=totD (T-1) 0 (v0::r)++[dAsk Z T]):=by show _=_;rw [dns_append,HX.out];rfl
   rw [HDs2.out] at PL
   clear own dls HDs2
   go_wp2_with fail
   refine PL.out.mono ?_
   rintro e wl3 ⟨y3,rfl,hy3,hay3,bl⟩
   have bel:=below_step bl bel
   obtain ⟨p3,hp⟩:∃ p,p=y3.a.pos:=⟨_,rfl⟩
   obtain ⟨l3,hl⟩:∃ p,p=y3.cts.length:=⟨_,rfl⟩
   obtain ⟨c3,hc⟩:∃ p,p=y3.a.cost:=⟨_,rfl⟩
   obtain ⟨co3,hco⟩:∃ p,p=y3.co:=⟨_,rfl⟩
   obtain ⟨yc3,hyc⟩:∃ p,p=y3.cap:=⟨_,rfl⟩
   have hE:y3.a.err=0:=by rw [hy3];exact HPu.out.2.2.1
   rw [hE,← hp,← hl,← hc,← hco,← hyc]
   obtain ⟨X3,hX⟩:∃ X,X=wl3.alloc (.cells #[.int .i64 0,.int .i64 p3,.slice co3 l3 yc3,.int .i64 c3] 48):=⟨_,rfl⟩
   have bX:Below wl3.heap.size wl3 X3:=by rw [hX];exact (Below.refl _ _).alloc (Nat.le_refl _) _
   have AX3:X3.heap[wl3.heap.size]?=some (.cells #[.int .i64 0,.int .i64 p3,.slice co3 l3 yc3,.int .i64 c3] 48 (0,0)):=by rw [hX];exact heap_alloc_new wl3 _
   have belX3:=below_step bX bel
   have ownM:=own_below ownM belX3
   have dlsM:=dlsM.below belX3
   have bw3:=below_step belX3 bw2
   have HCs3:=hide (And.intro hay3.cs (And.intro hy3 hl))
   have cs3:CsIn X3 co3 y3.cts:=by rw [hco];exact (hay3.below bX).inn
   obtain ⟨Y3,hY⟩:∃ Y,Y=wl3.heap.size:=⟨_,rfl⟩
   rw [← hY] at AX3
   have HXX3:=hide hX
   have HYY3:=hide hY
   clear PL bl hE hp hl hc hco hyc hX bX bel hY hay3 hy3
   go_upto_region 20 with fail
   rw [← HXX3.out,← HYY3.out]
   have A1':=below_block (below_step belX3 belX2) AX1
   have A2':=below_block belX3 AX2
   obtain ⟨q0,q1,q2,q3,-⟩:=four_cells A1'
   obtain ⟨e0,e1,e2,e3,-⟩:=four_cells A2'
   obtain ⟨f0,f1,f2,f3,-⟩:=four_cells AX3
   have n1:l1=1:=by
    have h1:=HCs1.out.1
    rw [HCs1.out.2.1,HPu.out.1.2] at h1
    have:=congrArg List.length h1
    rw [cls_len] at this
    rw [HCs1.out.2.2];simpa using this
   have n2:l2=1:=by
    have h1:=HCs2.out.1
    rw [HCs2.out.2.1,HPu.out.2.1.2] at h1
    have:=congrArg List.length h1
    rw [cls_len] at this
    rw [HCs2.out.2.2];simpa using this
   have n3:l3=r.length:=by
    have h1:=congrArg List.length HCs3.out.1
    rw [cls_len,HCs3.out.2.1,HPu.out.2.2.2] at h1
    rw [HCs3.out.2.2];exact h1
   have v1:(ct y1.cts 0).v=sm:=by
    have h1:=HCs1.out.1
    rw [HCs1.out.2.1,HPu.out.1.2] at h1
    exact ct_one h1
   have v2:(ct y2.cts 0).v=mo:=by
    have h1:=HCs2.out.1
    rw [HCs2.out.2.1,HPu.out.2.1.2] at h1
    exact ct_one h1
   have cs1':=(cs1.below belX2).below belX3
   have cs2':=cs2.below belX3
   obtain ⟨m1,o1,h1,-,hc1⟩:=seg_cell cs1'.seg (k:=0) (by rw [← HCs1.out.2.2];omega)
   obtain ⟨m2,o2,h2,-,hc2⟩:=seg_cell cs2'.seg (k:=0) (by rw [← HCs2.out.2.2];omega)
   have z1:=(hc1 0 (by rw [← HCs1.out.2.2];omega)).2
   have z2:=(hc2 0 (by rw [← HCs2.out.2.2];omega)).2
   rw [v1] at z1
   rw [v2] at z2
   simp only [Nat.zero_mul,Nat.add_zero] at z1 z2
   have n3k:l3=k-1:=by omega
   have sk:wrap64 ((k:Int)-1)=((k-1:Nat):Int):=by unfold wrap64;omega
   have es:(sm == sm)=true:=by simp
   have em:(mo == mo)=true:=by simp
   have ek:(((k-1:Nat):Int) == ((k-1:Nat):Int))=true:=by simp
   have hbz:Below w.heap.size w X3:=bw3
   subst h1
   subst h2
   subst n1
   subst n2
   subst n3k
   clear HCs1 HCs2 HCs3 cs1 cs2 cs3 cs1' cs2' hc1 hc2 v1 v2 n3 AX1 AX2 AX3 A1' A2' HPu
   go_wp2
   all_goals (first | (go_ret;exact ⟨rfl,hbz⟩) | exact bodyPost_ret (v:=.bool true) (by simp [results,Tryz.results10,go_sem];omega) rfl ⟨rfl,hbz⟩)
end Go.Proofs.YtoldmigappbjcaaGreatDoor
