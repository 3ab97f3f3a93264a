import Derived.Test.YtoldmigappbjcaaGreatDoorK07
import Derived.Test.YtoldmigappbjcaaGreatDoorK15
import Derived.Test.YtoldmigappbjcaaGreatDoorK28
import Derived.Test.YtoldmigappbjcaaGreatDoorK30
import Derived.Test.YtoldmigappbjcaaGreatDoorK31
namespace Go.GrainU
open Go.RowKit
theorem playB_len:∀ (l:List Dn) (b:Bs),(playB b l).2.length=l.length
 | [],b=>rfl
 | x::r,b=>by simp [playB,playB_len r]
open Go.RowKit
theorem putB_no {b:Bs} {i:Nat} {t v:Int} (h:(putB b i t v).2≠0):(putB b i t v).1=b:=by
 unfold putB at *
 by_cases h1:(Grain.sapp (kp b.l i).s t v).2=0
 ·rw [if_pos h1] at h;exact absurd rfl h
 ·rw [if_neg h1]
theorem putN_no {b:Bs} {i:Nat} {s:Lb} {t v:Int} (h:(putN b i s t v).2≠0):(putN b i s t v).1=b:=by
 unfold putN at *
 by_cases h1:8≤b.l.length
 ·rw [if_pos h1]
 rw [if_neg h1] at h ⊢
 by_cases h2:(Grain.sroll (newS s) b.hz).2≠0
 ·rw [if_pos h2]
 rw [if_neg h2] at h ⊢
 by_cases h3:(Grain.sapp (Grain.sroll (newS s) b.hz).1 t v).2≠0
 ·rw [if_pos h3]
 rw [if_neg h3] at h
 exact absurd rfl h
theorem takeB_no {b:Bs} {s:Lb} {t v:Int} (h:(takeB b s t v).2≠0):(takeB b s t v).1=b:=by
 unfold takeB at *
 by_cases h1:wrongS s≠0
 ·rw [if_pos h1]
 rw [if_neg h1] at h ⊢
 by_cases h2:Grain.inR t v=false
 ·rw [if_pos h2]
 rw [if_neg h2] at h ⊢
 by_cases h3:t<b.hz
 ·rw [if_pos h3]
 rw [if_neg h3] at h ⊢
 by_cases h4:bhas b.l s=true
 ·rw [if_pos h4] at h ⊢;exact putB_no h
 ·rw [if_neg h4] at h ⊢;exact putN_no h
theorem rollB_no {b:Bs} {t:Int} (h:(rollB b t).2≠0):(rollB b t).1=b:=by
 unfold rollB at *
 by_cases h1:t<0∨1000000<t
 ·rw [if_pos h1]
 rw [if_neg h1] at h ⊢
 cases he:eachB (fun s=>Grain.sroll s t) b.l with
 | error x=>rfl
 | ok l=>rw [he] at h;exact absurd rfl h
theorem forgB_no {b:Bs} {k t:Int} (h:(forgB b k t).2≠0):(forgB b k t).1=b:=by
 unfold forgB at *
 by_cases h1:t<0∨1000000<t
 ·rw [if_pos h1]
 rw [if_neg h1] at h ⊢
 by_cases h2:k=0∨k=1∨k=2
 ·rw [if_pos h2] at h ⊢
  cases he:eachB (fun s=>Grain.sforg s k t) b.l with
  | error x=>rfl
  | ok l=>rw [he] at h;exact absurd rfl h
 ·rw [if_neg h2]
theorem doB_no {b:Bs} {d:Dn} (h:(doB b d).2.err≠0∨d.kind=4):(doB b d).1=b:=by
 unfold doB at *
 by_cases k1:d.kind=1
 ·rw [if_pos k1] at h ⊢
  rcases h with h | h
  ·exact takeB_no h
  ·omega
 rw [if_neg k1] at h ⊢
 by_cases k2:d.kind=2
 ·rw [if_pos k2] at h ⊢
  rcases h with h | h
  ·exact rollB_no h
  ·omega
 rw [if_neg k2] at h ⊢
 by_cases k3:d.kind=3
 ·rw [if_pos k3] at h ⊢
  rcases h with h | h
  ·exact forgB_no h
  ·omega
 rw [if_neg k3] at h ⊢
 by_cases k4:d.kind=4
 ·rw [if_pos k4]
 ·rw [if_neg k4]
end Go.GrainU
namespace Go.Proofs.YtoldmigappbjcaaGreatDoor
open Go.RowKit Go.GrainU
set_option maxHeartbeats 1000000 in
theorem ladd_any (h:ByteArray) (t v:Int) (w:World) (hh:h.size≤9223372036854775807) :
  Calls Tryz.prog 34 #[.string h,.int .i64 t,.int .i64 v] w fun e w'=>∃ S:Nat,e=.returned (.agg #[.int .i64 1,.int .i64 0,.int .i64 0,.slice (some ⟨S,0,none⟩) 1 1,.int .i64 t,.int .i64 v,.string ⟨#[]⟩])∧DIn w' ⟨dAdd h t v,some ⟨S,0,none⟩,1⟩∧Below w.heap.size w w':=by
 have FIN:∀ o,Hid (DIn ((w.alloc o).alloc (.cells #[.string hostB,.string h] 88)) ⟨dAdd h t v,some ⟨w.heap.size+1,0,none⟩,1⟩∧Below w.heap.size w ((w.alloc o).alloc (.cells #[.string hostB,.string h] 88))):=by
  intro o
  refine ⟨⟨?_,?_,fun h=>(by cases h),by show (ByteArray.mk #[]).size≤_;decide⟩,((Below.refl _ _).alloc (Nat.le_refl _) _).alloc (by simp) _⟩
  ·have:=seg_new (w.alloc o) #[.string hostB,.string h] 88
   simpa [dAdd,lcells] using this
  ·intro k hk
   have:k=0:=by simp [dAdd] at hk;exact hk
   subst this
   exact ⟨by show hostB.size≤_;decide,hh⟩
 have HF:=hide FIN
 clear FIN hh
 unfold hostB at HF
 go_enter Tryz.func34,Tryz.ntmps34
 go_wp2
 exact bodyPost_ret (v:=.agg #[.int .i64 1,.int .i64 0,.int .i64 0,.slice (some ⟨w.heap.size+1,0,none⟩) 1 1,.int .i64 t,.int .i64 v,.string ⟨#[]⟩]) (by simp [results,Tryz.results34,go_sem]) rfl ⟨_,rfl,(HF.out _).out.1,(HF.out _).out.2⟩
def alive9S:ByteArray:=⟨#[97,108,108,32,115,117,109,32,40,115,117,109,40,123,125,91,54,48,93,41,41]⟩
def alive9L:List Dn:=[dAdd ⟨#[120]⟩ 5 7,dAdd ⟨#[121]⟩ 6 8,dRoll 100,dAsk alive9S 60]
theorem alive9_l:(playB b0 alive9L).1.l.length=2:=by kernel_rfl
theorem alive9_a:(playB b0 alive9L).2.getD 3 ⟨1,0,[],0⟩=⟨0,0,[([],15)],2⟩:=by kernel_rfl
set_option maxRecDepth 20000 in
set_option maxHeartbeats 4000000 in
theorem lalive_any (w:World) (hv:ErrV w):Calls Tryz.prog 13 #[] w fun e w'=>e=.returned (.bool true)∧Below w.heap.size w w':=by
 have P1:=hide (ladd_any ⟨#[120]⟩ 5 7 w (by decide))
 have HV:=hide hv
 clear hv
 go_enter Tryz.func13,Tryz.ntmps13
 go_wp2_with fail
 refine P1.out.mono ?_
 rintro e w1 ⟨S,rfl,d1,b1⟩
 have P2:=hide (ladd_any ⟨#[121]⟩ 6 8 w1 (by decide))
 clear P1
 go_wp2_with fail
 refine P2.out.mono ?_
 rintro e w2 ⟨S2,rfl,d2,b2⟩
 have bel2:Below w.heap.size w w2:=b1.trans (b2.mono b1.size)
 have D1:=d1.below b2
 obtain ⟨W,hW⟩:∃ W,W=w2.alloc (.cells #[.int .i64 1,.int .i64 0,.int .i64 0,.slice (some ⟨S,0,none⟩) 1 1,.int .i64 5,.int .i64 7,.string ⟨#[]⟩,.int .i64 1,.int .i64 0,.int .i64 0,.slice (some ⟨S2,0,none⟩) 1 1,.int .i64 6,.int .i64 8,.string ⟨#[]⟩,.int .i64 2,.int .i64 0,.int .i64 100,.slice none 0 0,.int .i64 0,.int .i64 0,.string ⟨#[]⟩,.int .i64 4,.int .i64 0,.int .i64 60,.slice none 0 0,.int .i64 0,.int .i64 0,.string ⟨#[97,108,108,32,115,117,109,32,40,115,117,109,40,123,125,91,54,48,93,41,41]⟩] 36):=⟨_,rfl⟩
 have bW:Below w2.heap.size w2 W:=by rw [hW];exact (Below.refl _ _).alloc (Nat.le_refl _) _
 have belW:Below w.heap.size w W:=bel2.trans (bW.mono bel2.size)
 obtain ⟨l,hl⟩:∃ l:List DT,l=[⟨dAdd ⟨#[120]⟩ 5 7,some ⟨S,0,none⟩,1⟩,⟨dAdd ⟨#[121]⟩ 6 8,some ⟨S2,0,none⟩,1⟩,⟨dRoll 100,none,0⟩,⟨dAsk alive9S 60,none,0⟩]:=⟨_,rfl⟩
 have hd:dns l=alive9L:=by rw [hl];rfl
 have hl4:l.length=4:=by rw [hl];rfl
 have sg:Seg W (some ⟨w2.heap.size,0,none⟩) (dcells l):=by
  rw [hW,hl];exact seg_new w2 _ _
 have P3:=hide (play_any l (some ⟨w2.heap.size,0,none⟩) 4 4 W sg (fun x hx=>by
  rw [hl] at hx
  simp at hx
  rcases hx with e | e | e | e
  ·rw [e];exact D1.below bW
  ·rw [e];exact d2.below bW
  ·rw [e];exact din_none _ _ rfl (by show (ByteArray.mk #[]).size≤_;decide)
  ·rw [e];exact din_none _ _ rfl (by show alive9S.size≤_;decide)) hl4.symm (HV.out.below belW))
 have HW:=hide hW
 have HD:=hide hd
 have HL4:=hide hl4
 clear P2 d1 d2 D1 b1 b2 bel2 hW sg bW HV hd hl hl4
 go_wp2_with fail
 rw [← HW.out]
 refine P3.out.mono ?_
 intro e w3 hh
 rcases hh with ⟨h120,_⟩ | ⟨h120,ro,oo,rn,rc,d,hz,sl,ys,rfl,hrow,hli,hhz,hout,hys,b3⟩
 ·rw [HL4.out] at h120;exact absurd h120 (by decide)
 ·rw [HD.out] at hli hys
  rw [HL4.out] at hout ⊢
  have bel3:Below w.heap.size w w3:=belW.trans (b3.mono belW.size)
  have hrn:rn=2:=by
   have h1:=hrow.len
   have h2:=hli.len
   rw [h1,h2,alive9_l]
  have hyl:=hout.len
  obtain ⟨y,hy⟩:∃ y,y=ys.getD 3 ⟨⟨1,0,[],0⟩,[],none,0⟩:=⟨_,rfl⟩
  have hmy:3<ys.length:=by omega
  have yin:AnIn w3 y:=by
   rw [hy]
   refine hout.ans _ ?_
   simp only [List.getD,List.getElem?_eq_getElem hmy,Option.getD_some];exact List.getElem_mem hmy
  have ya:y.a=⟨0,0,[([],15)],2⟩:=by
   rw [← alive9_a,← hys,hy]
   simp [List.getD,List.getElem?_eq_getElem hmy]
  obtain ⟨bb,off,hoo,hcs⟩:∃ b off,oo=some ⟨b,off,none⟩∧∀ j,j<(acells4 ys).length→w3.cell? ⟨b,off+j,none⟩=(acells4 ys)[j]?:=by
   rcases own_seg' hout.own with h | ⟨b,off,h1,h2⟩
   ·have:=acells4_length ys
    rw [h] at this
    simp at this
    omega
   ·exact ⟨b,off,h1,h2⟩
  have hal:=acells4_length ys
  have cc:∀ j,j<4→w3.cell? ⟨bb,off+12+j,none⟩=y.cells[j]?:=fun j hj=>by
   rw [hy,← acells4_at ys 3 j hmy hj,Nat.add_assoc];exact hcs (3*4+j) (by omega)
  obtain ⟨ya',cts,co,cap⟩:=y
  simp only at ya
  subst ya
  have hc:=yin.cs
  have hci:=yin.inn
  simp only at hc hci
  have hl1:cts.length=1:=by have:=congrArg List.length hc;simpa [cls] using this
  have hk:0<cts.length:=by omega
  obtain ⟨b,off2,hco,hbb,hcell⟩:=seg_cell hci.seg hk
  have hv0:(ct cts 0).v=15:=by
   match cts,hl1,hc with
   | [c],_,h =>
    simp [cls,CT.cl] at h
    exact h.2
  have q1:w3.cell? ⟨b,off2+1,none⟩=some (.int .i64 15):=by
   have:=(hcell 0 hk).2
   rw [hv0] at this
   simpa using this
  have c2:w3.cell? ⟨bb,off+12+2,none⟩=some (.slice (some ⟨b,off2,none⟩) 1 cap):=by rw [← hco,← hl1];exact cc 2 (by omega)
  have c3:w3.cell? ⟨bb,off+12+3,none⟩=some (.int .i64 2):=cc 3 (by omega)
  have l1:bb<w3.heap.size:=World.block_lt_of_cell? w3 _ c2
  have l2:b<w3.heap.size:=World.block_lt_of_cell? w3 _ q1
  have HB:Hid (∀ o,Below w.heap.size w (w3.alloc o)):=fun o=>bel3.alloc bel3.size _
  subst hoo
  subst hrn
  clear P3 hrow hli hhz hout hys b3 bel3 hcs cc hal yin hc hci hcell hv0 hl1 hk hyl hmy hy h120 HW HD HL4
  go_wp2
  go_ret
  exact ⟨rfl,HB.out _⟩
open Go.RowKit Go.GrainU
def goods:List DT→List An→List DT
 | x::r,a::s=>if a.err=0∧x.d.kind≠4 then x::goods r s else goods r s
 | _,_=>[]
theorem goods_snoc (x:DT) (a:An):∀ (l:List DT) (s:List An),l.length=s.length→goods (l++[x]) (s++[a])=goods l s++(if a.err=0∧x.d.kind≠4 then [x] else [])
 | [],[],_=>by
  by_cases h:a.err=0∧x.d.kind≠4
  ·simp [goods,h]
  ·simp [goods,h]
 | y::r,b::s,h=>by
  have ih:=goods_snoc x a r s (by simpa using h)
  simp only [List.cons_append,goods,ih]
  split <;> simp
 | [],b::s,h=>by simp at h
 | y::r,[],h=>by simp at h
theorem goods_mem:∀ (l:List DT) (s:List An),∀ x∈goods l s,x∈l
 | [],s,x,h=>by simp [goods] at h
 | y::r,[],x,h=>by simp [goods] at h
 | y::r,b::s,x,h=>by
  simp only [goods] at h
  split at h
  ·rcases List.mem_cons.1 h with e | e
   ·simp [e]
   ·exact List.mem_cons_of_mem _ (goods_mem r s x e)
  ·exact List.mem_cons_of_mem _ (goods_mem r s x h)
theorem goods_len:∀ (l:List DT) (s:List An),(goods l s).length≤l.length
 | [],s=>by simp [goods]
 | y::r,[]=>by simp [goods]
 | y::r,b::s=>by
  simp only [goods]
  have:=goods_len r s
  split
  ·simp;exact this
  ·simp;omega
theorem refused_pure:∀ (l:List DT) (b:Bs),(playB b (dns (goods l (playB b (dns l)).2))).1=(playB b (dns l)).1∧∀ a∈(playB b (dns (goods l (playB b (dns l)).2))).2,a.err=0
 | [],b=>by
  refine ⟨rfl,fun a ha=>?_⟩
  simp [goods,dns,playB] at ha
 | x::r,b=>by
  have ih:=refused_pure r (doB b x.d).1
  have e:(playB b (dns (x::r))).2=(doB b x.d).2::(playB (doB b x.d).1 (dns r)).2:=rfl
  have e1:(playB b (dns (x::r))).1=(playB (doB b x.d).1 (dns r)).1:=rfl
  rw [e,e1]
  simp only [goods]
  by_cases h:(doB b x.d).2.err=0∧x.d.kind≠4
  ·rw [if_pos h]
   have e2:∀ g,playB b (dns (x::g))=((playB (doB b x.d).1 (dns g)).1,(doB b x.d).2::(playB (doB b x.d).1 (dns g)).2):=fun g=>rfl
   rw [e2]
   refine ⟨ih.1,fun a ha=>?_⟩
   rcases List.mem_cons.1 ha with q | q
   ·rw [q];exact h.1
   ·exact ih.2 a q
  ·rw [if_neg h]
   have hn:(doB b x.d).1=b:=doB_no (by
    by_cases h1:(doB b x.d).2.err=0
    ·right
     by_cases h2:x.d.kind=4
     ·exact h2
     ·exact absurd ⟨h1,h2⟩ h
    ·exact .inl h1)
   rw [hn] at ih ⊢
   exact ih
def at0:AT:=⟨⟨1,0,[],0⟩,[],none,0⟩
theorem dcells_append (a b:List DT):dcells (a++b)=dcells a++dcells b:=by
 induction a with
 | nil=>rfl
 | cons x r ih=>simp only [List.cons_append,dcells,ih,List.append_assoc]
theorem Tryz.infoDo:(Tryz.prog.info? 36).map (fun i=>(i.zero,i.size,i.bytes))=some (some (.agg #[.int .i64 0,.int .i64 0,.int .i64 0,.slice none 0 0,.int .i64 0,.int .i64 0,.string ⟨#[]⟩]),7,80):=by kernel_rfl
end Go.Proofs.YtoldmigappbjcaaGreatDoor
