import Derived.Deep.CutRange
import Derived.Lib.SlBuf
import Derived.Test.YtoldmigappbjcaaGreatDoorK01
import Derived.Test.YtoldmigappbjcaaGreatDoorK05
import Derived.Test.YtoldmigappbjcaaGreatDoorK25
import Derived.Test.YtoldmigappbjcaaGreatDoorK26
namespace Go.GrainU
open Go.RowKit
end Go.GrainU
namespace Go.Proofs.YtoldmigappbjcaaGreatDoor
open Go.RowKit Go.GrainU
set_option maxHeartbeats 1000000 in
theorem mallof1_any (x:CT) (s:Lb) (n m c':Nat) (so:Option Addr) (w:World) (hx:Seg w x.sa (lcells x.ser)) (hs:Seg w so (lcells s)) (hn:n=x.ser.length) (hm:m=s.length) (hc:n≤9223372036854775807) :
  Calls Tryz.prog 153 #[.agg #[.slice x.sa n x.sc,.int .i64 x.v],.slice so m c'] w fun e w'=>e=.returned (.int .i64 (cmpS x.ser s))∧Below w.heap.size w w':=by
 obtain ⟨V,hV⟩:∃ V,V=w.alloc (.cells #[.slice x.sa n x.sc,.int .i64 x.v] 79):=⟨_,rfl⟩
 have bel:Below w.heap.size w V:=by rw [hV];exact (Below.refl _ _).alloc (Nat.le_refl _) _
 have HV:=hide hV
 have HN:=hide hn
 have HM:=hide hm
 obtain ⟨C,hC⟩:∃ C,C=cmpS x.ser s:=⟨_,rfl⟩
 rw [← hC]
 have HC:=hide hC
 clear hV hn hm hC
 go_enter Tryz.func153,Tryz.ntmps153
 go_wp2_with fail
 rw [← HV.out]
 refine (ncmp_any x.ser s x.sa so n m x.sc c' V (hx.below bel) (hs.below bel) HN.out HM.out hc).mono ?_
 rintro e w1 ⟨rfl,b1⟩
 rw [← HC.out]
 go_wp2
 go_ret
 exact ⟨rfl,bel.trans (b1.mono bel.size)⟩
set_option maxHeartbeats 4000000 in
set_option maxRecDepth 100000 in
theorem mbsc_any (l:List CT) (s:Lb) (co so:Option Addr) (n c m c' p:Nat) (F:Bool) (w:World) (hl:CsIn w co l) (hs:Seg w so (lcells s)) (hn:n=l.length) (hm:m=s.length) (hn4:n≤1000000) (hb8:∀ x∈l,x.ser.length≤9223372036854775807) (hp:p≤n) (hbd:∀ k,k<n→(cmpS (ct l k).ser s<0↔k<p)) (hF:F=(decide (p<n) && decide (cmpS (ct l p).ser s=0))) :
  Calls Tryz.prog 152 #[.slice co n c,.slice so m c',.func (.func 153) #[] #[]] w fun e w'=>e=.returned (.tuple #[.int .i64 p,.bool F])∧Below w.heap.size w w':=by
 have HN:=hide hn
 have HM:=hide hm
 have HB:=hide hbd
 have HF:=hide hF
 have H8:=hide hb8
 clear hn hm hbd hF hb8
 go_enter Tryz.func152,Tryz.ntmps152
 go_wp2
 go_loopw [9,10] (fun s9 s10 wr=>∃ lo hi:Nat,s9=.int .i64 lo∧s10=.int .i64 hi∧lo≤p∧p≤hi∧hi≤n∧Below w.heap.size w wr) (fun s9 s10 _=>(intOf s10).toNat-(intOf s9).toNat)
 case atStart=>exact ⟨0,n,rfl,rfl,Nat.zero_le _,hp,Nat.le_refl _,Below.refl _ _⟩
 case round =>
  obtain ⟨lo,hi,rfl,rfl,hlo,hhi,hin,bel⟩:=hrel
  have hsz:=bel.size
  by_cases hlt:lo<hi
  ·have hkl:(lo+hi) / 2<l.length:=by rw [← HN.out];omega
   obtain ⟨b,off,rfl,hb,hcell⟩:=seg_cell hl.seg hkl
   obtain ⟨x,hx⟩:∃ x,x=ct l ((lo+hi) / 2):=⟨_,rfl⟩
   obtain ⟨xn,hxn⟩:∃ xn,xn=x.ser.length:=⟨_,rfl⟩
   have c0:wr.cell? ⟨b,off+(lo+hi) / 2*2,none⟩=some (.slice x.sa xn x.sc):=by rw [hxn,hx];exact (bel.cell (by exact hb)).trans (hcell _ hkl).1
   have c1:wr.cell? ⟨b,off+(lo+hi) / 2*2+1,none⟩=some (.int .i64 x.v):=by rw [hx];exact (bel.cell (by exact hb)).trans (hcell _ hkl).2
   have sx:Seg w x.sa (lcells x.ser):=by rw [hx];exact hl.ser _ (ct_mem hkl)
   have x8:xn≤9223372036854775807:=by rw [hxn,hx];exact H8.out _ (ct_mem hkl)
   have HX:=hide hx
   have HXN:=hide hxn
   clear hcell hx hxn hkl
   go_wp2_with fail
   refine (mallof1_any x s xn m c' so wr (sx.below bel) (hs.below bel) HXN.out HM.out x8).mono ?_
   rintro e w1 ⟨rfl,b1⟩
   have bel1:Below w.heap.size w w1:=bel.trans (b1.mono hsz)
   have hkey:=HB.out ((lo+hi) / 2) (by omega)
   rw [← HX.out] at hkey
   generalize cmpS x.ser s=C at hkey ⊢
   clear c0 c1 b1 bel HX
   by_cases hc:C<0
   ·have hp2:=hkey.1 hc
    clear hkey
    go_wp2
    go_roundw
    case rel=>exact ⟨(lo+hi) / 2+1,hi,by rw [show ((lo:Int)+(hi:Int)) / 2+1=(((lo+hi) / 2+1:Nat):Int) by omega],rfl,by omega,hhi,hin,bel1⟩
    case measure=>simp [intOf];omega
   ·have hp2:¬ (lo+hi) / 2<p:=fun h=>hc (hkey.2 h)
    clear hkey
    go_wp2
    go_roundw
    case rel=>exact ⟨lo,(lo+hi) / 2,rfl,by rw [show ((lo:Int)+(hi:Int)) / 2=(((lo+hi) / 2:Nat):Int) by omega],hlo,by omega,by omega,bel1⟩
    case measure=>simp [intOf];omega
  ·have e1:lo=p:=by omega
   have e2:hi=p:=by omega
   subst e1
   subst e2
   by_cases hpn:hi<n
   ·have hkl:hi<l.length:=by rw [← HN.out];omega
    obtain ⟨b,off,rfl,hb,hcell⟩:=seg_cell hl.seg hkl
    obtain ⟨x,hx⟩:∃ x,x=ct l hi:=⟨_,rfl⟩
    obtain ⟨xn,hxn⟩:∃ xn,xn=x.ser.length:=⟨_,rfl⟩
    have c0:wr.cell? ⟨b,off+hi*2,none⟩=some (.slice x.sa xn x.sc):=by rw [hxn,hx];exact (bel.cell (by exact hb)).trans (hcell _ hkl).1
    have c1:wr.cell? ⟨b,off+hi*2+1,none⟩=some (.int .i64 x.v):=by rw [hx];exact (bel.cell (by exact hb)).trans (hcell _ hkl).2
    have sx:Seg w x.sa (lcells x.ser):=by rw [hx];exact hl.ser _ (ct_mem hkl)
    have x8:xn≤9223372036854775807:=by rw [hxn,hx];exact H8.out _ (ct_mem hkl)
    have HX:=hide hx
    have HXN:=hide hxn
    clear hcell hx hxn hkl
    go_wp2_with fail
    refine (mallof1_any x s xn m c' so wr (sx.below bel) (hs.below bel) HXN.out HM.out x8).mono ?_
    rintro e w1 ⟨rfl,b1⟩
    have bel1:Below w.heap.size w w1:=bel.trans (b1.mono hsz)
    have HF2:Hid (F=decide (cmpS x.ser s=0)):=by show _=_;rw [HF.out,HX.out];simp [hpn]
    generalize cmpS x.ser s=C at HF2 ⊢
    clear c0 c1 b1 bel HX HF
    by_cases hc:C=0
    ·have HF3:Hid (F=true):=by show _=_;rw [HF2.out];simpa using hc
     subst hc
     go_wp2
     go_ret2
     exact ⟨by rw [HF3.out];rfl,bel1⟩
    ·have HF3:Hid (F=false):=by show _=_;rw [HF2.out];simpa using hc
     have hd:(C == 0)=false:=by simpa using hc
     clear hc
     go_wp2
     go_ret2
     exact ⟨by rw [HF3.out];rfl,bel1⟩
   ·have HF3:Hid (F=false):=by show _=_;rw [HF.out];simp [hpn]
    clear HF
    go_wp2
    go_ret2
    exact ⟨by rw [HF3.out];rfl,bel⟩
set_option maxHeartbeats 1000000 in
theorem nonly_own (l:List (ByteArray×ByteArray)) (ks:List ByteArray) (ao bo:Option Addr) (n cap m c:Nat) (w:World) (hs:Seg w ao (lcells l)) (hn:n=l.length) (hL:n*32≤140737488351232) (hb:Seg w bo (wcells ks)) (hm:m=ks.length) (hM:m≤9223372036854775807) :
  Calls Tryz.prog 151 #[.slice ao n cap,.slice bo m c] w fun e w'=>∃ co N d,e=.returned (.slice co N d)∧w'.ownsRow w.heap.size 88 2 (.slice co N d) N (lcells (only l ks))∧N=(only l ks).length∧Below w.heap.size w w':=by
 obtain ⟨V,hV⟩:∃ V,V=w.alloc (.cells #[.slice bo m c] 38):=⟨_,rfl⟩
 have bel:Below w.heap.size w V:=by rw [hV];exact (Below.refl _ _).alloc (Nat.le_refl _) _
 have cB:V.cell? ⟨w.heap.size,0,none⟩=some (.slice bo m c):=by rw [hV];simp
 have hsz:=bel.size
 have HV:=hide hV
 have HN:=hide hn
 have HM:=hide hm
 clear hV hn hm
 have haV:=hs.below bel
 have hbV:=hb.below bel
 go_enter Tryz.func151,Tryz.ntmps151
 go_wp2_with fail
 rw [← HV.out]
 refine (nkept_any l ks w.heap.size ao bo n cap m c V haV HN.out hL hbV cB HM.out hM).mono ?_
 rintro e w1 ⟨co,N,d,rfl,own,hb1⟩
 have bel1:Below w.heap.size w w1:=bel.trans (hb1.mono hsz)
 have own1:=own.mono hsz
 have HL:=hide (own_llen own)
 clear hb1 own
 go_wp2
 go_ret
 exact ⟨co,N,d,rfl,own1,HL.out,bel1⟩
end Go.Proofs.YtoldmigappbjcaaGreatDoor
namespace Go.GrainU
open Go.RowKit
theorem lcells_one (l:Lb):∀ u∈lcells l,u.oneCell'=true:=by
 induction l with
 | nil=>intro u hu;simp [lcells] at hu
 | cons s r ih =>
  intro u hu
  simp only [lcells,List.mem_cons] at hu
  rcases hu with e | e | e
  ·subst e;rfl
  ·subst e;rfl
  ·exact ih u e
theorem winC_append (a b:List Ln) (h:Hd) (time:Int):winC (a++b) h time=winC a h time++winC b h time:=by
 induction a with
 | nil=>rfl
 | cons x r ih=>simp [winC,ih]
theorem cls_append (a b:List CT):cls (a++b)=cls a++cls b:=by simp [cls]
end Go.GrainU
namespace Go.Proofs.YtoldmigappbjcaaGreatDoor
open Go.RowKit Go.GrainU
theorem Tryz.infoCell:(Tryz.prog.info? 79).map (fun i=>(i.zero,i.size,i.bytes))=some (some (.agg #[.slice none 0 0,.int .i64 0]),2,32):=by kernel_rfl
set_option maxRecDepth 100000 in
set_option maxHeartbeats 2000000 in
theorem mclone_any (s:Lb) (ao:Option Addr) (n c:Nat) (w:World) (hs:Seg w ao (lcells s)) (hn:n=s.length) (hL:n*32≤140737488351232) (hnil:ao=none→n=0∧c=0) :
  Calls Tryz.prog 113 #[.slice ao n c] w fun e w'=>∃ co N d,e=.returned (.slice co N d)∧w'.ownsRow w.heap.size 88 2 (.slice co N d) N (lcells s)∧N=n∧Below w.heap.size w w':=by
 obtain ⟨i0,hi,hz0,hz1,hz2⟩:=info_parts Tryz.infoLabel
 have q30:∀ (w:World) (a:Option Addr) (n c n' c':Nat),(binOp .eql 32 (.slice a n c) (.slice none n' c')).run Tryz.prog w=.ok (.bool a.isNone) w:=fun w a n c n' c'=>Lib.run_eql_slice_nil w _ _ a n c n' c' Tryz.underlying32
 cases ao with
 | none =>
  obtain ⟨rfl,rfl⟩:=hnil rfl
  have he:s=[]:=List.length_eq_zero_iff.1 hn.symm
  subst he
  clear hL hn hs
  go_enter Tryz.func113,Tryz.ntmps113
  go_wp2
  go_ret
  exact ⟨none,0,0,rfl,World.ownsRow_nil _ _ _ _,rfl,Below.refl _ _⟩
 | some ad =>
  have HN:=hide hn
  have hw1:Below w.heap.size w (w.alloc (.cells #[] 88)):=(Below.refl _ _).alloc (Nat.le_refl _) _
  have HL:=hide hL
  clear hn hnil hL
  go_enter Tryz.func113,Tryz.ntmps113
  go_wp2_with (at_builtin;refine append_seg rfl _ _ 32 rfl w.heap.size 88 i0 (.agg #[.string ⟨#[]⟩,.string ⟨#[]⟩]) 2 32 Tryz.underlying32 hi hz0 hz1 hz2 rfl (by decide) _ _ _ rfl (World.ownsRow_made w #[] 0 (Nat.le_refl _) (Nat.zero_le _) (by simp)) (some ad) n c (lcells s) rfl (fun h=>by cases h) (hs.below hw1) ?qc1 (lcells_one s) ?qc4 ?qc5 ?qc6 ?_)
  case qc1=>rw [lcells_length,HN.out]
  case qc4=>have:=HL.out;unfold maxLen;omega
  case qc5=>have:=HL.out;omega
  case qc6=>simp
  intro v' w1 own gr
  obtain ⟨ao',c',rfl,_,_⟩:=own_open own
  have bel1:Below w.heap.size w w1:=hw1.grown gr (by simp) (fun j hj=>by simp [Value.ownBlock] at hj;omega)
  have own2:w1.ownsRow w.heap.size 88 2 (.slice ao' (0+n) c') (0+n) (lcells s):=by simpa using own
  clear own gr
  go_wp2
  go_ret
  exact ⟨ao',n,c',rfl,by simpa using own2,rfl,bel1⟩
end Go.Proofs.YtoldmigappbjcaaGreatDoor
namespace Go.GrainU
open Go.RowKit
structure OwnC (w:World) (base T:Nat) (v:Value) (N:Nat) (l:List CT):Prop where
 own:w.ownsRow base T 2 v N (ccells l)
 ser:∀ c∈l,SegN w v.ownBlock c.sa (lcells c.ser)
theorem OwnC.nil (w:World) (base T:Nat):OwnC w base T (.slice none 0 0) 0 []:=⟨World.ownsRow_nil _ _ _ _,fun c hc=>by cases hc⟩
theorem OwnC.len {w:World} {base T N:Nat} {v:Value} {l:List CT} (h:OwnC w base T v N l):N=l.length:=by
 have:=h.own.1;rw [ccells_length] at this;omega
theorem OwnC.below {w w':World} {base T N:Nat} {v:Value} {l:List CT} (h:OwnC w base T v N l) (hb:Below w.heap.size w w'):OwnC w' base T v N l:=⟨own_below h.own hb,fun c hc=>(h.ser c hc).below hb⟩
theorem OwnC.csIn {w:World} {base N d:Nat} {co:Option Addr} {l:List CT} (h:OwnC w base 79 (.slice co N d) N l):CsIn w co l:=by
 have ht:=own_typ h.own
 obtain ⟨ao',c,hv,hs,_⟩:=own_open h.own
 simp only [Value.slice.injEq] at hv
 obtain ⟨rfl,-,rfl⟩:=hv
 exact ⟨hs,fun c hc=>(h.ser c hc).seg,ht,fun c hc=>(h.ser c hc).typ⟩
theorem OwnC.push {w w':World} {base T N d g' cp':Nat} {co:Option Addr} {l:List CT} (h:OwnC w base T (.slice co N d) N l) (c:CT) (hc:SegN w (Value.slice co N d).ownBlock c.sa (lcells c.ser))
  (own:w'.ownsRow base T 2 (.slice (some ⟨g',0,none⟩) (N+1) cp') (N+1) (ccells l++[.slice c.sa c.ser.length c.sc,.int .i64 c.v])) (gr:w.grownBy w' (Value.slice co N d).ownBlock) (hat:(Value.slice co N d).ownBlock=some g'∨w.heap.size≤g') :
  OwnC w' base T (.slice (some ⟨g',0,none⟩) (N+1) cp') (N+1) (l++[c]):=by
 have hr:∀ g,(Value.slice (some ⟨g',0,none⟩) (N+1) cp').ownBlock=some g→(Value.slice co N d).ownBlock=some g∨w.heap.size≤g:=fun g hg=>by
  simp [Value.ownBlock] at hg
  subst hg
  exact hat
 refine ⟨by rw [ccells_append];exact own,fun x hx=>?_⟩
 rcases List.mem_append.1 hx with e | e
 ·exact (h.ser x e).grown gr hr
 ·simp at e
  subst e
  exact hc.grown gr hr
end Go.GrainU
namespace Go.Proofs.YtoldmigappbjcaaGreatDoor
open Go.RowKit Go.GrainU
end Go.Proofs.YtoldmigappbjcaaGreatDoor
namespace Go.GrainU
open Go.RowKit
theorem cellOf_fine {l:List Cl} {s:Lb} {v:Int} (h:∀ c∈l,Fine c) (e:cellOf l s=some v) : -MC≤v∧v≤MC:=by
 induction l with
 | nil=>simp [cellOf] at e
 | cons c r ih =>
  simp only [cellOf] at e
  split at e
  ·simp at e
   have:=h c (by simp)
   rw [← e];exact ⟨this.1,this.2.1⟩
  ·exact ih (fun c hc=>h c (by simp [hc])) e
theorem atM_fine {m:Mn} {s:Lb} {v:Int} (h:∀ c∈m.cs,Fine c) (e:atM m s=some v) : -MC≤v∧v≤MC:=by
 unfold atM at e
 split at e
 ·simp at e
  rw [← e]
  cases hm:m.cs with
  | nil=>simp [cl0,MC]
  | cons c r =>
   have:=h c (by rw [hm];simp)
   exact ⟨this.1,this.2.1⟩
 ·exact cellOf_fine h e
theorem binA_no {a b:Mn} {w:ByteArray} {acc:List Cl} {c:Cl} {r:List Cl} (h:atM a c.1=none∨atM b c.1=none):binA a b w acc (c::r)=binA a b w acc r:=by
 rcases h with h | h
 ·simp [binA,h]
 ·cases h':atM a c.1 <;> simp [binA,h,h']
theorem binA_yes {a b:Mn} {w:ByteArray} {acc:List Cl} {c:Cl} {r:List Cl} {x y v:Int} (h:atM a c.1=some x) (h':atM b c.1=some y) (hv:wkd w x y=some v):binA a b w acc (c::r)=binA a b w (acc++[(c.1,v)]) r:=by
 simp [binA,h,h',hv]
theorem binA_bad {a b:Mn} {w:ByteArray} {acc:List Cl} {c:Cl} {r:List Cl} {x y:Int} (h:atM a c.1=some x) (h':atM b c.1=some y) (hv:wkd w x y=none):binA a b w acc (c::r)=none:=by
 simp [binA,h,h',hv]
theorem cls_drop {l:List CT} {k:Nat} (h:k<l.length):cls (l.drop k)=(ct l k).cl::cls (l.drop (k+1)):=by rw [drop_ct h];rfl
theorem two_snd {w:World} {B:Nat} {x y:Value} {t:TypeId} (h:w.heap[B]?=some (.cells #[x,y] t (0,0))) (q:Value):(w.setCell ⟨B,1,none⟩ q).heap[B]?=some (.cells #[x,q] t (0,0)):=by
 simp [World.setCell,Array.getElem?_modify,h]
end Go.GrainU
namespace Go.Proofs.YtoldmigappbjcaaGreatDoor
open Go.RowKit Go.GrainU
def MPost (o:Option Mn) (e:Ending) (w':World):Prop :=
 (o=none∧e=.returned (.tuple #[.agg #[.bool false,.slice none 0 0],.int .i64 3])) ∨
 ∃ nb cts co N d,e=.returned (.tuple #[.agg #[.bool nb,.slice co N d],.int .i64 0])∧o=some ⟨nb,cls cts⟩∧N=cts.length∧CsIn w' co cts
structure BI (w wr:World) (x1 y1 x2 y2 ob:Value) (co:Option Addr) (N d:Nat) (cts:List CT):Prop where
 bel:Below w.heap.size w wr
 b1:wr.heap[w.heap.size]?=some (.cells #[x1,y1] 131 (0,0))
 b2:wr.heap[w.heap.size+1]?=some (.cells #[x2,y2] 131 (0,0))
 b3:wr.heap[w.heap.size+1+1]?=some (.cells #[.bool false,.slice none 0 0] 131 (0,0))
 b5:wr.heap[w.heap.size+1+1+1+1]?=some (.cells #[ob,.slice co N d] 131 (0,0))
 own:wr.ownsRow (w.heap.size+5) 79 2 (.slice co N d) N (ccells cts)
 ser:∀ c∈cts,SegL w c.sa c.ser
theorem BI.start (w:World) (x1 y1 x2 y2 ob:Value) (o4:Obj):BI w (((((w.alloc (.cells #[x1,y1] 131)).alloc (.cells #[x2,y2] 131)).alloc (.cells #[.bool false,.slice none 0 0] 131)).alloc o4).alloc (.cells #[ob,.slice none 0 0] 131)) x1 y1 x2 y2 ob none 0 0 []:=by
 refine ⟨?_,?_,?_,?_,?_,World.ownsRow_nil _ _ _ _,fun c hc=>by cases hc⟩
 ·exact (((((Below.refl _ _).alloc (Nat.le_refl _) _).alloc (by simp) _).alloc (by simp;omega) _).alloc (by simp;omega) _).alloc (by simp;omega) _
 ·rw [Below.heap_alloc _ _ _ (by simp;omega),Below.heap_alloc _ _ _ (by simp;omega),Below.heap_alloc _ _ _ (by simp;omega),Below.heap_alloc _ _ _ (by simp)];exact heap_alloc_new _ _
 ·rw [Below.heap_alloc _ _ _ (by simp),Below.heap_alloc _ _ _ (by simp),Below.heap_alloc _ _ _ (by simp)]
  have:=heap_alloc_new (w.alloc (.cells #[x1,y1] 131)) (.cells #[x2,y2] 131)
  simpa using this
 ·rw [Below.heap_alloc _ _ _ (by simp),Below.heap_alloc _ _ _ (by simp)]
  have:=heap_alloc_new ((w.alloc (.cells #[x1,y1] 131)).alloc (.cells #[x2,y2] 131)) (.cells #[.bool false,.slice none 0 0] 131)
  simpa using this
 ·have:=heap_alloc_new ((((w.alloc (.cells #[x1,y1] 131)).alloc (.cells #[x2,y2] 131)).alloc (.cells #[.bool false,.slice none 0 0] 131)).alloc o4) (.cells #[ob,.slice none 0 0] 131)
  simpa using this
theorem BI.call {w wr w':World} {x1 y1 x2 y2 ob:Value} {co:Option Addr} {N d:Nat} {cts:List CT} (I:BI w wr x1 y1 x2 y2 ob co N d cts) (hb:Below wr.heap.size wr w'):BI w w' x1 y1 x2 y2 ob co N d cts :=
 ⟨I.bel.trans (hb.mono I.bel.size),below_block hb I.b1,below_block hb I.b2,below_block hb I.b3,below_block hb I.b5,own_below I.own hb,I.ser⟩
theorem BI.kept {w wr w':World} {x1 y1 x2 y2 ob:Value} {co:Option Addr} {N d:Nat} {cts:List CT} (I:BI w wr x1 y1 x2 y2 ob co N d cts) (gr:wr.grownBy w' (Value.slice co N d).ownBlock) :
  w'.heap[w.heap.size+1+1+1+1]?=some (.cells #[ob,.slice co N d] 131 (0,0)):=by
 rw [gr.block _ (lt_of_block I.b5) (fun e=>by have:=(own_base I.own _ e.symm).1;omega)];exact I.b5
theorem BI.push {w wr w':World} {x1 y1 x2 y2 ob:Value} {co:Option Addr} {N d g' cp':Nat} {cts:List CT} (I:BI w wr x1 y1 x2 y2 ob co N d cts) (c:CT) (hc:SegL w c.sa c.ser)
  (own:w'.ownsRow (w.heap.size+5) 79 2 (.slice (some ⟨g',0,none⟩) (N+1) cp') (N+1) (ccells cts++[.slice c.sa c.ser.length c.sc,.int .i64 c.v])) (gr:wr.grownBy w' (Value.slice co N d).ownBlock) :
  BI w (w'.setCell ⟨w.heap.size+1+1+1+1,1,none⟩ (.slice (some ⟨g',0,none⟩) (N+1) cp')) x1 y1 x2 y2 ob (some ⟨g',0,none⟩) (N+1) cp' (cts++[c]):=by
 have hr:∀ k,k<w.heap.size+5→some k≠(Value.slice co N d).ownBlock:=fun k hk e=>by
  have:=(own_base I.own k e.symm).1
  omega
 have hb:∀ k o,k<w.heap.size+5→wr.heap[k]?=some o→w'.heap[k]?=some o:=fun k o hk h=>by
  rw [gr.block k (lt_of_block h) (fun e=>hr k hk (by first | exact e | exact e.symm))];exact h
 have bel':Below w.heap.size w w':=I.bel.grown gr I.bel.size (fun j hj=>by have:=(own_base I.own j hj).1;omega)
 refine ⟨bel'.setCell (by show w.heap.size≤w.heap.size+1+1+1+1;omega) _,?_,?_,?_,?_,?_,?_⟩
 ·rw [setCell_far (by omega)];exact hb _ _ (by omega) I.b1
 ·rw [setCell_far (by omega)];exact hb _ _ (by omega) I.b2
 ·rw [setCell_far (by omega)];exact hb _ _ (by omega) I.b3
 ·exact two_snd (hb _ _ (by omega) I.b5) _
 ·rw [ccells_append]
  exact ownsRow_setCell_below own (by show w.heap.size+1+1+1+1<w.heap.size+5;omega) _
 ·intro x hx
  rcases List.mem_append.1 hx with e | e
  ·exact I.ser x e
  ·simp at e
   subst e
   exact hc
set_option maxRecDepth 100000 in
set_option maxHeartbeats 8000000 in
theorem mbin_any (n1 n2:Bool) (l1 l2:List CT) (x:ByteArray) (o1 o2:Option Addr) (N1 d1 N2 d2:Nat) (w:World) (h1:CsIn w o1 l1) (h2:CsIn w o2 l2) (hN1:N1=l1.length) (hN2:N2=l2.length)
  (f1:∀ c∈cls l1,Fine c) (f2:∀ c∈cls l2,Fine c) (e1:N1≤8) (e2:N2≤8) (p1:n1=true→0<N1) (p2:n2=true→0<N2) :
  Calls Tryz.prog 111 #[.agg #[.bool n1,.slice o1 N1 d1],.agg #[.bool n2,.slice o2 N2 d2],.string x] w fun e w'=>MPost (binM ⟨n1,cls l1⟩ ⟨n2,cls l2⟩ x) e w'∧Below w.heap.size w w':=by
 obtain ⟨i0,hi,hz0,hz1,hz2⟩:=info_parts Tryz.infoCell
 have s1:∀ c∈l1,c.ser.length≤9223372036854775807:=fun c hc=>by
  have:=(f1 c.cl (List.mem_map_of_mem hc)).2.2
  have e:c.cl.1.length=c.ser.length:=rfl
  omega
 have s2:∀ c∈l2,c.ser.length≤9223372036854775807:=fun c hc=>by
  have:=(f2 c.cl (List.mem_map_of_mem hc)).2.2
  have e:c.cl.1.length=c.ser.length:=rfl
  omega
 obtain ⟨fb,hfb⟩:∃ fb,fb=(fromM ⟨n1,cls l1⟩ ⟨n2,cls l2⟩).num:=⟨_,rfl⟩
 have hfrom:∃ fl fo NF dF,fl=(if n1=true then l2 else l1)∧fo=(if n1=true then o2 else o1)∧NF=(if n1=true then N2 else N1)∧dF=(if n1=true then d2 else d1)∧NF=fl.length∧NF≤8∧CsIn w fo fl∧(fromM ⟨n1,cls l1⟩ ⟨n2,cls l2⟩).cs=cls fl∧fb=(if n1=true then n2 else n1):=by
  rw [hfb]
  cases n1 with
  | true=>exact ⟨l2,o2,N2,d2,rfl,rfl,rfl,rfl,hN2,e2,h2,rfl,rfl⟩
  | false=>exact ⟨l1,o1,N1,d1,rfl,rfl,rfl,rfl,hN1,e1,h1,rfl,rfl⟩
 obtain ⟨fl,fo,NF,dF,g1,g2,g3,g4,hNF,eF,hF,hcs,g5⟩:=hfrom
 obtain ⟨A,hA⟩:∃ A:Mn,A=⟨n1,cls l1⟩:=⟨_,rfl⟩
 obtain ⟨B,hB⟩:∃ B:Mn,B=⟨n2,cls l2⟩:=⟨_,rfl⟩
 have HR:Hid (binM A B x=(binA A B x [] (cls fl)).map fun l=>⟨fb,l⟩):=by
  show _=_
  rw [hfb,hA,hB,binM,hcs]
 have PA:Hid (∀ (s:Lb) (m c':Nat) (so:Option Addr) (w':World),Below w.heap.size w w'→Seg w so (lcells s)→m=s.length→Calls Tryz.prog 157 #[.agg #[.bool n1,.slice o1 N1 d1],.slice so m c'] w' fun e w''=>e=.returned (.tuple #[.int .i64 (oi (atM A s)),.bool (ob (atM A s))])∧Below w'.heap.size w' w'') :=
  fun s m c' so w' hb hs hm=>by rw [hA];exact mat_any n1 l1 s N1 d1 m c' o1 so w' (h1.below hb) (hs.below hb) hN1 hm s1 (by omega) p1
 have PB:Hid (∀ (s:Lb) (m c':Nat) (so:Option Addr) (w':World),Below w.heap.size w w'→Seg w so (lcells s)→m=s.length→Calls Tryz.prog 157 #[.agg #[.bool n2,.slice o2 N2 d2],.slice so m c'] w' fun e w''=>e=.returned (.tuple #[.int .i64 (oi (atM B s)),.bool (ob (atM B s))])∧Below w'.heap.size w' w'') :=
  fun s m c' so w' hb hs hm=>by rw [hB];exact mat_any n2 l2 s N2 d2 m c' o2 so w' (h2.below hb) (hs.below hb) hN2 hm s2 (by omega) p2
 have FA:Hid (∀ s v,atM A s=some v→-MC≤v∧v≤MC):=fun s v e=>atM_fine (by rw [hA];exact f1) e
 have FB:Hid (∀ s v,atM B s=some v→-MC≤v∧v≤MC):=fun s v e=>atM_fine (by rw [hB];exact f2) e
 have HF:=hide hF
 have HNF:=hide hNF
 rw [← hA,← hB]
 have G1:=hide (And.intro g2 (And.intro g3 (And.intro g4 g5)))
 clear hA hB hfb hcs hN1 hN2 f1 f2 s1 s2 e1 e2 p1 p2 h1 h2 hF hNF g1 g2 g3 g4 g5
 have HST:Hid (∀ o4,BI w (((((w.alloc (.cells #[.bool n1,.slice o1 N1 d1] 131)).alloc (.cells #[.bool n2,.slice o2 N2 d2] 131)).alloc (.cells #[.bool false,.slice none 0 0] 131)).alloc o4).alloc (.cells #[.bool fb,.slice none 0 0] 131)) (.bool n1) (.slice o1 N1 d1) (.bool n2) (.slice o2 N2 d2) (.bool fb) none 0 0 []):=fun o4=>BI.start w _ _ _ _ _ o4
 go_enter Tryz.func111,Tryz.ntmps111
 go_upto_region 2 with fail
 go_cut [18,20] from 19 to 21 (fun v18 v20 wx=>v20=.bool n1∧wx=(((w.alloc (.cells #[.bool n1,.slice o1 N1 d1] 131)).alloc (.cells #[.bool n2,.slice o2 N2 d2] 131)).alloc (.cells #[.bool false,.slice none 0 0] 131)).alloc (.cells #[.bool n1,.slice o1 N1 d1] 131))
 case first =>
  go_wp2_with fail
  go_meet
  exact ⟨rfl,rfl⟩
 case rest =>
 obtain ⟨rfl,rfl⟩:=hcut
 apply_assumption
 go_cut [18] from 19 to 21 (fun v18 wx=>wx=(((w.alloc (.cells #[.bool n1,.slice o1 N1 d1] 131)).alloc (.cells #[.bool n2,.slice o2 N2 d2] 131)).alloc (.cells #[.bool false,.slice none 0 0] 131)).alloc (.cells #[.bool fb,.slice fo NF dF] 131))
 case first =>
  obtain ⟨g2,g3,g4,g5⟩:=G1.out
  cases n1 with
  | true =>
   simp only [if_true] at g2 g3 g4 g5
   subst g2 g3 g4 g5
   go_wp2_with fail
   go_meet
   rfl
  | false =>
   simp at g2 g3 g4 g5
   subst g2 g3 g4 g5
   go_wp2_with fail
   go_meet
   rfl
 case rest =>
 subst hcut
 clear G1
 have I0:=HST.out (.cells #[.bool fb,.slice fo NF dF] 131)
 clear HST
 go_wp2
 go_loopw [28] (fun i wr=>∃ (k N d:Nat) (co:Option Addr) (cts:List CT),k≤NF∧i=.int .i64 k∧N≤k∧BI w wr (.bool n1) (.slice o1 N1 d1) (.bool n2) (.slice o2 N2 d2) (.bool fb) co N d cts∧Hid (binA A B x [] (cls fl)=binA A B x (cls cts) (cls (fl.drop k)))) (fun i _=>NF-(intOf i).toNat)
 case atStart=>exact ⟨0,0,0,none,[],Nat.zero_le _,rfl,Nat.le_refl _,I0,rfl⟩
 case round =>
  clear I0
  obtain ⟨k,N,d,co,cts,hk,rfl,hNk,I,HB⟩:=hrel
  by_cases hlt:k<NF
  ·have hkl:k<fl.length:=by rw [← HNF.out];exact hlt
   obtain ⟨b,off,rfl,hb,hcell⟩:=seg_cell HF.out.seg hkl
   obtain ⟨c,hc⟩:∃ c,c=ct fl k:=⟨_,rfl⟩
   obtain ⟨cn,hcn⟩:∃ cn,cn=c.ser.length:=⟨_,rfl⟩
   have segc:Seg w c.sa (lcells c.ser):=by rw [hc];exact HF.out.ser _ (ct_mem hkl)
   have HSL:Hid (SegL w c.sa c.ser):=by rw [hc];exact ⟨HF.out.ser _ (ct_mem hkl),HF.out.tl _ (ct_mem hkl)⟩
   have c0:wr.cell? ⟨b,off+k*2,none⟩=some (.slice c.sa cn c.sc):=by rw [hcn,hc];exact (I.bel.cell (by exact hb)).trans (hcell k hkl).1
   have c1:wr.cell? ⟨b,off+k*2+1,none⟩=some (.int .i64 c.v):=by rw [hc];exact (I.bel.cell (by exact hb)).trans (hcell k hkl).2
   have HD:Hid (cls (fl.drop k)=c.cl::cls (fl.drop (k+1))):=by show _=_;rw [cls_drop hkl,hc]
   obtain ⟨V,hV⟩:∃ V,V=wr.alloc (.cells #[.slice c.sa cn c.sc,.int .i64 c.v] 79):=⟨_,rfl⟩
   obtain ⟨X,hX⟩:∃ X,X=wr.heap.size:=⟨_,rfl⟩
   have F1:V.heap[X]?=some (.cells #[.slice c.sa cn c.sc,.int .i64 c.v] 79 (0,0)):=by rw [hV,hX];exact heap_alloc_new wr _
   have belA:Below wr.heap.size wr V:=by rw [hV];exact (Below.refl _ _).alloc (Nat.le_refl _) _
   have IV:=I.call belA
   obtain ⟨y0,y1,_,_⟩:=two_cells I.b1
   have l1':w.heap.size<wr.heap.size:=lt_of_block I.b1
   obtain ⟨oA,hoA⟩:∃ oA,oA=atM A c.ser:=⟨_,rfl⟩
   obtain ⟨oB,hoB⟩:∃ oB,oB=atM B c.ser:=⟨_,rfl⟩
   have HOA:=hide hoA
   have HOB:=hide hoB
   have HV:=hide hV
   have HX:=hide hX
   have HCN:=hide hcn
   clear hV hcn hc hkl hcell hoA hoB I belA
   go_wp2_with fail
   rw [← HV.out]
   refine (PA.out c.ser cn c.sc c.sa V IV.bel segc HCN.out).mono ?_
   rintro e w1 ⟨rfl,b1⟩
   rw [← HOA.out,← HX.out]
   have I1:=IV.call b1
   have F2:=below_block b1 F1
   obtain ⟨x0,x1,_,_⟩:=two_cells F2
   obtain ⟨z0,z1,_,_⟩:=two_cells I1.b2
   clear c0 c1 y0 y1 l1' IV F1 b1 HV HX hX
   generalize hqa:oi oA=qa
   generalize hka:ob oA=ka
   have HQA:=hide hqa
   have HKA:=hide hka
   clear hqa hka
   go_wp2_with fail
   refine (PB.out c.ser cn c.sc c.sa w1 I1.bel segc HCN.out).mono ?_
   rintro e w2 ⟨rfl,b2⟩
   rw [← HOB.out]
   have I2:=I1.call b2
   have F3:=below_block b2 F2
   clear x0 x1 z0 z1 I1 F2 b2
   generalize hqb:oi oB=qb
   generalize hkb:ob oB=kb
   have HQB:=hide hqb
   have HKB:=hide hkb
   clear hqb hkb
   cases ka with
   | false =>
    have HB2:Hid (binA A B x [] (cls fl)=binA A B x (cls cts) (cls (fl.drop (k+1)))):=by
     show _=_
     rw [HB.out,HD.out,binA_no (.inl ?_)]
     show atM A c.ser=none
     rw [← HOA.out]
     have:=HKA.out
     cases oA with
     | none=>rfl
     | some v=>simp [ob] at this
    clear HB HD
    go_wp2
    go_roundw
    case rel=>exact ⟨k+1,N,d,co,cts,by omega,by go_num,by omega,I2,HB2⟩
    case measure=>simp [intOf];omega
   | true =>
    have hoa:oA=some qa:=by
     have h1:=HKA.out
     have h2:=HQA.out
     cases oA with
     | none=>simp [ob] at h1
     | some v=>simp [oi] at h2;rw [h2]
    have HSA:=hide hoa
    clear hoa
    cases kb with
    | false =>
     have HB2:Hid (binA A B x [] (cls fl)=binA A B x (cls cts) (cls (fl.drop (k+1)))):=by
      show _=_
      rw [HB.out,HD.out,binA_no (.inr ?_)]
      show atM B c.ser=none
      rw [← HOB.out]
      have:=HKB.out
      cases oB with
      | none=>rfl
      | some v=>simp [ob] at this
     clear HB HD
     go_wp2
     go_roundw
     case rel=>exact ⟨k+1,N,d,co,cts,by omega,by go_num,by omega,I2,HB2⟩
     case measure=>simp [intOf];omega
    | true =>
     have hob:oB=some qb:=by
      have h1:=HKB.out
      have h2:=HQB.out
      cases oB with
      | none=>simp [ob] at h1
      | some v=>simp [oi] at h2;rw [h2]
     have ha:atM A c.cl.1=some qa:=by show atM A c.ser=_;rw [← HOA.out,HSA.out]
     have hb':atM B c.cl.1=some qb:=by show atM B c.ser=_;rw [← HOB.out,hob]
     have bA:=FA.out _ _ ha
     have bB:=FB.out _ _ hb'
     obtain ⟨R,hR⟩:∃ R,R=wkd x qa qb:=⟨_,rfl⟩
     have PW:Hid (∀ w',Calls Tryz.prog 158 #[.string x,.int .i64 qa,.int .i64 qb] w' fun e w''=>e=.returned (.tuple #[.int .i64 (ov R),.int .i64 (oe R)])∧w''=w'):=fun w'=>by rw [hR];exact mworked_any x qa qb w' bA bB
     have HR2:=hide hR
     have HA2:=hide ha
     have HB2:=hide hb'
     clear hob ha hb' bA bB hR HOA HOB HQA HQB HKA HKB HSA
     go_wp2_with fail
     refine (PW.out w2).mono ?_
     intro e w3 hh
     rw [hh.1,hh.2]
     clear hh PW
     cases R with
     | none =>
      have HE:Hid (binM A B x=none):=by
       show _=_
       rw [HR.out,HB.out,HD.out,binA_bad HA2.out HB2.out HR2.out.symm];rfl
      obtain ⟨t0,t1,t2,t3⟩:=two_cells I2.b3
      have bel2:=I2.bel
      simp only [ov,oe]
      clear HR HB HD HA2 HB2 HR2 I2 F3
      go_wp2
      exact bodyPost_ret (v:=.tuple #[.agg #[.bool false,.slice none 0 0],.int .i64 3]) (by simp [results,Tryz.results111,go_sem,t0,t1]) rfl ⟨.inl ⟨HE.out,rfl⟩,(bel2.setCell (by show w.heap.size≤w.heap.size+1+1;omega) _).setCell (by show w.heap.size≤w.heap.size+1+1;omega) _⟩
     | some v =>
      have HB3:Hid (binA A B x [] (cls fl)=binA A B x (cls (cts++[⟨c.ser,v,c.sa,c.sc⟩])) (cls (fl.drop (k+1)))):=by
       show _=_
       rw [HB.out,HD.out,binA_yes HA2.out HB2.out HR2.out.symm,cls_append]
       rfl
      simp only [ov,oe]
      clear HB HD HA2 HB2 HR2
      obtain ⟨x0,x1,_,_⟩:=two_cells F3
      obtain ⟨t0,t1,t2,t3⟩:=two_cells I2.b5
      have l5:w.heap.size+1+1+1+1<w2.heap.size:=lt_of_block I2.b5
      have belB:Below w2.heap.size w2 (w2.alloc (.cells #[.slice c.sa cn c.sc,.int .i64 v] 79)):=(Below.refl _ _).alloc (Nat.le_refl _) _
      have IA:=I2.call belB
      clear I2
      go_wp2_with (at_builtin;refine wpList_append_lies _ rfl _ _ 46 rfl (w.heap.size+5) 79 i0 (.agg #[.slice none 0 0,.int .i64 0]) 2 32 Tryz.underlying46 hi hz0 hz1 hz2 rfl (by decide) _ _ _ rfl IA.own ⟨w2.heap.size,0,none⟩ 1 1 [.slice c.sa cn c.sc,.int .i64 v] rfl rfl (news_two rfl _ _ _) (by simp [Value.oneCell']) (by decide) (by unfold maxLen;omega) (by omega) (by simp;omega) (w2.heap.size+1) (by simp) ?_)
      intro g' cp' wz ownZ grZ hatZ hltZ
      have IP:=IA.push ⟨c.ser,v,c.sa,c.sc⟩ HSL.out (by rw [← HCN.out];exact ownZ) grZ
      have K5:=IA.kept grZ
      obtain ⟨t0,t1,t2,t3⟩:=two_cells K5
      clear ownZ grZ hatZ hltZ IA belB K5
      go_wp2
      go_roundw
      case rel=>exact ⟨k+1,N+1,cp',_,_,by omega,by go_num,by omega,IP,HB3⟩
      case measure=>simp [intOf];omega
  ·have he:k=NF:=by omega
   subst he
   have hd:fl.drop k=[]:=List.drop_eq_nil_of_le (by rw [← HNF.out];exact Nat.le_refl _)
   have HE:Hid (binM A B x=some ⟨fb,cls cts⟩):=by
    show _=_
    rw [HR.out,HB.out,hd];rfl
   have bel:=I.bel
   have hlen:Hid (N=cts.length):=by
    have:=I.own.1
    rw [ccells_length] at this
    show _=_
    omega
   obtain ⟨ao',c',hv,hseg,_⟩:=own_open I.own
   simp only [Value.slice.injEq] at hv
   obtain ⟨rfl,-,rfl⟩:=hv
   have own:=I.own
   have HSR:=hide I.ser
   obtain ⟨t0,t1,t2,t3⟩:=two_cells I.b5
   obtain ⟨r0,r1,r2,r3⟩:=two_cells I.b3
   clear HB hd I HR HNF hseg
   go_wp2
   refine bodyPost_ret (v:=.tuple #[.agg #[.bool fb,.slice co N d],.int .i64 0]) (by simp [results,Tryz.results111,go_sem,r0,r1]) rfl ?_
   have bel2:Below w.heap.size w ((wr.setCell ⟨w.heap.size+1+1,0,none⟩ (.bool fb)).setCell ⟨w.heap.size+1+1,1,none⟩ (.slice co N d)):=(bel.setCell (by show w.heap.size≤w.heap.size+1+1;omega) _).setCell (by show w.heap.size≤w.heap.size+1+1;omega) _
   have own2:=ownsRow_setCell_below (ownsRow_setCell_below own (a:=⟨w.heap.size+1+1,0,none⟩) (by show w.heap.size+1+1<w.heap.size+5;omega) (.bool fb)) (a:=⟨w.heap.size+1+1,1,none⟩) (by show w.heap.size+1+1<w.heap.size+5;omega) (.slice co N d)
   obtain ⟨ao',c',hv,hseg,_⟩:=own_open own2
   simp only [Value.slice.injEq] at hv
   obtain ⟨rfl,-,rfl⟩:=hv
   exact ⟨.inr ⟨fb,cts,co,N,d,rfl,HE.out,hlen.out,⟨hseg,fun c hc=>((HSR.out c hc).below bel2).1,own_typ own2,fun c hc=>((HSR.out c hc).below bel2).2⟩⟩,bel2⟩
end Go.Proofs.YtoldmigappbjcaaGreatDoor
