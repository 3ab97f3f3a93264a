import Derived.Deep.AppendLies
import Derived.Lib.AppendIntMem
import Derived.Test.YtoldmigappbjcaaGreatDoorK09
import Derived.Test.YtoldmigappbjcaaGreatDoorK10
namespace Go.GrainU
open Go.RowKit
theorem news_one {W:World} {B:Nat} (hB:W.heap.size=B) (x:Value) (t:TypeId):∀ j u,[x][j]?=some u→(W.alloc (.cells #[x] t)).cell? ((⟨B,0,none⟩:Addr).add j)=some u:=by
 intro j u hj
 subst hB
 match j,hj with
 | 0,hj =>
  simp at hj
  rw [← hj]
  exact (one_cell7 (heap_alloc_new W (.cells #[x] t))).1
 | j+1,hj=>simp at hj
theorem wcells_snoc (l:List ByteArray) (x:ByteArray):wcells (l++[x])=wcells l++[.string x]:=by simp [wcells]
end Go.GrainU
namespace Go.Proofs.YtoldmigappbjcaaGreatDoor
open Go.RowKit Go.GrainU
theorem Tryz.infoStr:(Tryz.prog.info? 9).map (fun i=>(i.zero,i.size,i.bytes))=some (some (.string ⟨#[]⟩),1,16):=by kernel_rfl
def Tab (w : World) : Prop := Lib.TabIs Tryz.prog w "internal/strconv.uint64pow10" .u64 Lib.pow10Tab
end Go.Proofs.YtoldmigappbjcaaGreatDoor
namespace Go.GrainU
open Go.RowKit
theorem Rd.far {t:TypeId} {w:World} {B:Nat} {s:ByteArray} {st:St} (h:Rd t w B s st) {X o:Nat} {v:Value} (hX:B≠X):Rd t (w.setCell ⟨X,o,none⟩ v) B s st :=
 ⟨h.suf,by rw [setCell_far hX];exact h.blk⟩
theorem grown_far {w w':World} {r:Option Nat} (h:w.grownBy w' r) {X o:Nat} {v:Value} (hX:w.heap.size≤X):w.grownBy (w'.setCell ⟨X,o,none⟩ v) r :=
 ⟨h.os,h.tape,h.output,by simpa using h.size,fun k hk hne=>by rw [setCell_far (by omega)];exact h.block k hk hne⟩
theorem grown_block {w w':World} {B X:Nat} (h:w.grownBy w' (some B)) {o:Obj} (hb:w.heap[X]?=some o) (hX:X≠B):w'.heap[X]?=some o:=by
 have hl:X<w.heap.size:=by
  rcases Nat.lt_or_ge X w.heap.size with e | e
  ·exact e
  ·rw [Array.getElem?_eq_none (by exact e)] at hb;cases hb
 rw [h.block X hl (fun e=>hX (Option.some.inj e))]
 exact hb
theorem thaw3 {w:World} {B:Nat} {x0 x1 x2:Value} {t:TypeId} (h:w.heap[B]?=some (.cells #[x0,x1,x2] t (0,0))) :
  w.frozen? ⟨B,0,none⟩=false∧w.frozen? ⟨B,1,none⟩=false∧w.frozen? ⟨B,2,none⟩=false:=by
 simp [World.frozen?,h]
theorem thaw7 {w:World} {B:Nat} {x0 x1 x2 x3 x4 x5 x6:Value} {t:TypeId} (h:w.heap[B]?=some (.cells #[x0,x1,x2,x3,x4,x5,x6] t (0,0))) :
  w.frozen? ⟨B,0,none⟩=false∧w.frozen? ⟨B,1,none⟩=false∧w.frozen? ⟨B,2,none⟩=false∧w.frozen? ⟨B,3,none⟩=false∧w.frozen? ⟨B,4,none⟩=false∧w.frozen? ⟨B,5,none⟩=false∧w.frozen? ⟨B,6,none⟩=false:=by
 simp [World.frozen?,h]
end Go.GrainU
namespace Go.Proofs.YtoldmigappbjcaaGreatDoor
open Go.RowKit Go.GrainU
set_option maxHeartbeats 2000000 in
theorem pmatch_read (s:ByteArray) (st:St) (B:Nat) (w:World) (h:Rd 95 w B s st) (hs:s.size≤2000) :
  Calls Tryz.prog 222 #[.pointer (some ⟨B,0,none⟩)] w fun e w'=>((∃ m r,mtc st.r=.ok (m,r)∧e=.returned (.agg #[.int .i64 m.kind,.string m.key,.string m.val])∧Rd 95 w' B s ⟨r,st.n⟩)∨∃ f,mtc st.r=.error f∧e=.panicked [thr s f])∧w.grownBy w' (some B):=by
 have hB:=h.lt
 obtain ⟨X,hX⟩:∃ X,X=w.heap.size:=⟨_,rfl⟩
 obtain ⟨W,hW⟩:∃ W,W=w.alloc (.cells #[.int .i64 0,.string ⟨#[]⟩,.string ⟨#[]⟩] 183):=⟨_,rfl⟩
 have RW:Rd 95 W B s st:=by rw [hW];exact h.alloc _
 have gW:w.grownBy W (some B):=by rw [hW];exact grown_trans (World.grownBy.refl _ _) (World.grownBy_alloc _ _ none) (fun _ hk=>by cases hk)
 have FX:W.heap[X]?=some (.cells #[.int .i64 0,.string ⟨#[]⟩,.string ⟨#[]⟩] 183 (0,0)):=by rw [hW,hX];exact heap_alloc_new w _
 have hXB:X≠B:=by omega
 have HF:=hide FX
 have HW:=hide hW
 have HX:=hide hX
 have HG:=hide gW
 clear hW hX FX gW h
 have A1:=hide (accept_any [33] s st B W RW hs)
 unfold lit at A1
 cases ha:acc [33] st.r with
 | some r1 =>
  rw [ha] at A1
  simp only [Option.getD_some,Option.isSome_some] at A1
  have HM:Hid (mtc st.r=match wrd r1 with | .error e=>.error e | .ok (k,r2)=>.ok (⟨4,lit k,lit []⟩,r2)):=by show _=_;simp only [mtc,ha];rfl
  clear ha
  go_enter Tryz.func222,Tryz.ntmps222
  go_wp2_with fail
  rw [← HW.out,← HX.out]
  refine A1.out.mono ?_
  rintro e w1 ⟨rfl,h1,g1⟩
  go_wp2_with fail
  refine (word_any s ⟨r1,st.n⟩ B w1 h1 hs).mono ?_
  rintro e w2 ⟨⟨x,r,hx,rfl,h2⟩ | ⟨f,hf,rfl⟩,g2⟩
  ·have HE:Hid (mtc st.r=.ok (⟨4,lit x,lit []⟩,r)):=by show _=_;rw [HM.out,hx]
   have F2:=grown_block g2 (grown_block g1 HF.out hXB) hXB
   obtain ⟨z0,z1,z2⟩:=three_cells7 F2
   obtain ⟨u0,u1,u2⟩:=thaw3 F2
   have G2:=grown_trans (grown_trans HG.out g1 (fun _ hk=>.inl hk)) g2 (fun _ hk=>.inl hk)
   have RF:=((h2.far (X:=X) (o:=0) (v:=.int .i64 4) (Ne.symm hXB)).far (X:=X) (o:=1) (v:=.string (lit x)) (Ne.symm hXB)).far (X:=X) (o:=2) (v:=.string ⟨#[]⟩) (Ne.symm hXB)
   have GF:=grown_far (grown_far (grown_far G2 (X:=X) (o:=0) (v:=.int .i64 4) (by rw [HX.out];exact Nat.le_refl _)) (X:=X) (o:=1) (v:=.string (lit x)) (by rw [HX.out];exact Nat.le_refl _)) (X:=X) (o:=2) (v:=.string ⟨#[]⟩) (by rw [HX.out];exact Nat.le_refl _)
   clear hx HM F2 g1 g2 h1 RW
   go_wp2
   exact bodyPost_ret (v:=.agg #[.int .i64 4,.string (lit x),.string ⟨#[]⟩]) (by simp [results,Tryz.results222,go_sem,z0,z1,z2]) rfl ⟨.inl ⟨⟨4,lit x,lit []⟩,r,HE.out,rfl,RF⟩,GF⟩
  ·have HE:Hid (mtc st.r=.error f):=by show _=_;rw [HM.out,hf]
   have G2:=grown_trans (grown_trans HG.out g1 (fun _ hk=>.inl hk)) g2 (fun _ hk=>.inl hk)
   clear hf HM
   go_wp2_with fail
   exact ⟨rfl,.inr ⟨_,HE.out,rfl⟩,G2⟩
 | none =>
  rw [ha] at A1
  simp only [Option.getD_none,Option.isSome_none] at A1
  have HM:Hid (mtc st.r=match wrd st.r with
   | .error e=>.error e
   | .ok (k,r2)=>match acc [61] r2 with
    | some r3=>match wrd r3 with
     | .error e=>.error e
     | .ok (v,r4)=>.ok (⟨1,lit k,lit v⟩,r4)
    | none=>match acc [33,61] r2 with
     | some r3=>match wrd r3 with
      | .error e=>.error e
      | .ok (v,r4)=>.ok (⟨2,lit k,lit v⟩,r4)
     | none=>.ok (⟨3,lit k,lit []⟩,r2)):=by show _=_;simp only [mtc,ha];rfl
  clear ha
  go_enter Tryz.func222,Tryz.ntmps222
  go_wp2_with fail
  rw [← HW.out,← HX.out]
  refine A1.out.mono ?_
  rintro e w1 ⟨rfl,h1,g1⟩
  go_wp2_with fail
  refine (word_any s ⟨st.r,st.n⟩ B w1 h1 hs).mono ?_
  rintro e w2 ⟨⟨x,r,hx,rfl,h2⟩ | ⟨f,hf,rfl⟩,g2⟩
  ·rw [hx] at HM
   simp only at HM
   have G2:=grown_trans (grown_trans HG.out g1 (fun _ hk=>.inl hk)) g2 (fun _ hk=>.inl hk)
   have F2:=grown_block g2 (grown_block g1 HF.out hXB) hXB
   have A2:=hide (accept_any [61] s ⟨r,st.n⟩ B w2 h2 hs)
   unfold lit at A2
   clear hx g1 g2 h1 RW
   cases hb:acc [61] r with
   | some r3 =>
    rw [hb] at A2 HM
    simp only [Option.getD_some,Option.isSome_some] at A2 HM
    clear hb
    go_wp2_with fail
    refine A2.out.mono ?_
    rintro e w3 ⟨rfl,h3,g3⟩
    go_wp2_with fail
    refine (word_any s ⟨r3,st.n⟩ B w3 h3 hs).mono ?_
    rintro e w4 ⟨⟨y,r4,hy,rfl,h4⟩ | ⟨f,hf,rfl⟩,g4⟩
    ·have HE:Hid (mtc st.r=.ok (⟨1,lit x,lit y⟩,r4)):=by show _=_;rw [HM.out,hy]
     have G4:=grown_trans (grown_trans G2 g3 (fun _ hk=>.inl hk)) g4 (fun _ hk=>.inl hk)
     have FF:=grown_block g4 (grown_block g3 F2 hXB) hXB
     clear hy HM F2 G2 g3 g4 h3 h2
     obtain ⟨z0,z1,z2⟩:=three_cells7 FF
     obtain ⟨u0,u1,u2⟩:=thaw3 FF
     have RF:=((h4.far (X:=X) (o:=0) (v:=.int .i64 1) (Ne.symm hXB)).far (X:=X) (o:=1) (v:=.string (lit x)) (Ne.symm hXB)).far (X:=X) (o:=2) (v:=.string (lit y)) (Ne.symm hXB)
     have GF:=grown_far (grown_far (grown_far G4 (X:=X) (o:=0) (v:=.int .i64 1) (by rw [HX.out];exact Nat.le_refl _)) (X:=X) (o:=1) (v:=.string (lit x)) (by rw [HX.out];exact Nat.le_refl _)) (X:=X) (o:=2) (v:=.string (lit y)) (by rw [HX.out];exact Nat.le_refl _)
     clear FF
     go_wp2
     exact bodyPost_ret (v:=.agg #[.int .i64 1,.string (lit x),.string (lit y)]) (by simp [results,Tryz.results222,go_sem,z0,z1,z2]) rfl ⟨.inl ⟨⟨1,lit x,lit y⟩,_,HE.out,rfl,RF⟩,GF⟩
    ·have HE:Hid (mtc st.r=.error f):=by show _=_;rw [HM.out,hf]
     have G4:=grown_trans (grown_trans G2 g3 (fun _ hk=>.inl hk)) g4 (fun _ hk=>.inl hk)
     clear hf HM
     go_wp2_with fail
     exact ⟨rfl,.inr ⟨_,HE.out,rfl⟩,G4⟩
   | none =>
    rw [hb] at A2 HM
    simp only [Option.getD_none,Option.isSome_none] at A2 HM
    clear hb
    go_wp2_with fail
    refine A2.out.mono ?_
    rintro e w3 ⟨rfl,h3,g3⟩
    have A3:=hide (accept_any [33,61] s ⟨r,st.n⟩ B w3 h3 hs)
    unfold lit at A3
    have G3:=grown_trans G2 g3 (fun _ hk=>.inl hk)
    have F3:=grown_block g3 F2 hXB
    clear G2 F2 g3 h2
    cases hc:acc [33,61] r with
    | some r3 =>
     rw [hc] at A3 HM
     simp only [Option.getD_some,Option.isSome_some] at A3 HM
     clear hc
     go_wp2_with fail
     refine A3.out.mono ?_
     rintro e w4 ⟨rfl,h4,g4⟩
     go_wp2_with fail
     refine (word_any s ⟨r3,st.n⟩ B w4 h4 hs).mono ?_
     rintro e w5 ⟨⟨y,r4,hy,rfl,h5⟩ | ⟨f,hf,rfl⟩,g5⟩
     ·have HE:Hid (mtc st.r=.ok (⟨2,lit x,lit y⟩,r4)):=by show _=_;rw [HM.out,hy]
      have G5:=grown_trans (grown_trans G3 g4 (fun _ hk=>.inl hk)) g5 (fun _ hk=>.inl hk)
      have FF:=grown_block g5 (grown_block g4 F3 hXB) hXB
      clear hy HM F3 G3 g4 g5 h3 h4
      obtain ⟨z0,z1,z2⟩:=three_cells7 FF
      obtain ⟨u0,u1,u2⟩:=thaw3 FF
      have RF:=((h5.far (X:=X) (o:=0) (v:=.int .i64 2) (Ne.symm hXB)).far (X:=X) (o:=1) (v:=.string (lit x)) (Ne.symm hXB)).far (X:=X) (o:=2) (v:=.string (lit y)) (Ne.symm hXB)
      have GF:=grown_far (grown_far (grown_far G5 (X:=X) (o:=0) (v:=.int .i64 2) (by rw [HX.out];exact Nat.le_refl _)) (X:=X) (o:=1) (v:=.string (lit x)) (by rw [HX.out];exact Nat.le_refl _)) (X:=X) (o:=2) (v:=.string (lit y)) (by rw [HX.out];exact Nat.le_refl _)
      clear FF
      go_wp2
      exact bodyPost_ret (v:=.agg #[.int .i64 2,.string (lit x),.string (lit y)]) (by simp [results,Tryz.results222,go_sem,z0,z1,z2]) rfl ⟨.inl ⟨⟨2,lit x,lit y⟩,_,HE.out,rfl,RF⟩,GF⟩
     ·have HE:Hid (mtc st.r=.error f):=by show _=_;rw [HM.out,hf]
      have G5:=grown_trans (grown_trans G3 g4 (fun _ hk=>.inl hk)) g5 (fun _ hk=>.inl hk)
      clear hf HM
      go_wp2_with fail
      exact ⟨rfl,.inr ⟨_,HE.out,rfl⟩,G5⟩
    | none =>
     rw [hc] at A3 HM
     simp only [Option.getD_none,Option.isSome_none] at A3 HM
     clear hc
     go_wp2_with fail
     refine A3.out.mono ?_
     rintro e w4 ⟨rfl,h4,g4⟩
     have HE:Hid (mtc st.r=.ok (⟨3,lit x,lit []⟩,r)):=HM.out
     have G4:=grown_trans G3 g4 (fun _ hk=>.inl hk)
     have FF:=grown_block g4 F3 hXB
     clear HM F3 G3 g4 h3
     obtain ⟨z0,z1,z2⟩:=three_cells7 FF
     obtain ⟨u0,u1,u2⟩:=thaw3 FF
     have RF:=((h4.far (X:=X) (o:=0) (v:=.int .i64 3) (Ne.symm hXB)).far (X:=X) (o:=1) (v:=.string (lit x)) (Ne.symm hXB)).far (X:=X) (o:=2) (v:=.string ⟨#[]⟩) (Ne.symm hXB)
     have GF:=grown_far (grown_far (grown_far G4 (X:=X) (o:=0) (v:=.int .i64 3) (by rw [HX.out];exact Nat.le_refl _)) (X:=X) (o:=1) (v:=.string (lit x)) (by rw [HX.out];exact Nat.le_refl _)) (X:=X) (o:=2) (v:=.string ⟨#[]⟩) (by rw [HX.out];exact Nat.le_refl _)
     clear FF
     go_wp2
     exact bodyPost_ret (v:=.agg #[.int .i64 3,.string (lit x),.string ⟨#[]⟩]) (by simp [results,Tryz.results222,go_sem,z0,z1,z2]) rfl ⟨.inl ⟨⟨3,lit x,lit []⟩,_,HE.out,rfl,RF⟩,GF⟩
  ·have HE:Hid (mtc st.r=.error f):=by show _=_;rw [HM.out,hf]
   have G2:=grown_trans (grown_trans HG.out g1 (fun _ hk=>.inl hk)) g2 (fun _ hk=>.inl hk)
   clear hf HM
   go_wp2_with fail
   exact ⟨rfl,.inr ⟨_,HE.out,rfl⟩,G2⟩
end Go.Proofs.YtoldmigappbjcaaGreatDoor
namespace Go.GrainU
open Go.RowKit
theorem uint_digits {l:List UInt8} (h:l.all digit=true):∀ a,Go.Lib.parseUint10 a l≠.syntax:=by
 induction l with
 | nil=>intro a;simp [Go.Lib.parseUint10]
 | cons c r ih =>
  intro a
  simp at h
  have hc:48≤c.toNat∧c.toNat≤57:=by have:=h.1;unfold digit at this;simp at this;exact this
  unfold Go.Lib.parseUint10
  rw [if_pos hc]
  split
  ·intro e;cases e
  ·split
   ·intro e;cases e
   ·exact ih (by simpa using h.2) _
theorem atoi_digits {l:List UInt8} (h:l.all digit=true) (h0:l≠[]):Go.Lib.atoiAll l≠.syntax:=by
 cases l with
 | nil=>exact absurd rfl h0
 | cons c r =>
  have hc:48≤c.toNat∧c.toNat≤57:=by have:=h;simp at this;have:=this.1;unfold digit at this;simp at this;exact this
  have hm:Go.Lib.parseMag (c::r)≠.syntax:=by
   unfold Go.Lib.parseMag
   rw [if_neg (by simp)]
   exact uint_digits h 0
  unfold Go.Lib.atoiAll
  simp only [show ¬ (c.toNat=43∨c.toNat=45) from by omega,if_false]
  cases hp:Go.Lib.parseMag (c::r) with
  | «syntax»=>exact absurd hp hm
  | range=>simp
  | ok u =>
   simp only
   split
   ·intro e;cases e
   ·split
    ·intro e;cases e
    ·split <;> (intro e;cases e)
theorem take_all (p:UInt8→Bool) (l:List UInt8):(l.takeWhile p).all p=true:=by
 induction l with
 | nil=>rfl
 | cons c r ih =>
  by_cases h:p c=true
  ·simp [h]
  ·simp [h]
def IfaceAt (P:Program) (w:World) (name:String):Prop:=∃ tp p,w.var? P name=some #[.iface tp p]
theorem IfaceAt.below {P:Program} {w w':World} {name:String} (h:IfaceAt P w name) (hb:Below w.heap.size w w'):IfaceAt P w' name:=by
 obtain ⟨tp,p,h⟩:=h
 refine ⟨tp,p,?_⟩
 unfold World.var? at *
 cases hg:P.globalNamed name with
 | none=>simp [hg] at h
 | some g =>
  simp only [hg,Option.bind_some] at h ⊢
  have hlt:g<w.heap.size:=by
   rcases Nat.lt_or_ge g w.heap.size with e | e
   ·exact e
   ·rw [Array.getElem?_eq_none (by exact e)] at h;simp at h
  rw [hb.block g hlt]
  exact h
end Go.GrainU
namespace Go.Proofs.YtoldmigappbjcaaGreatDoor
open Go.RowKit Go.GrainU
abbrev ErrV (w : World) : Prop := IfaceAt Tryz.prog w "strconv.ErrRange"
theorem atoi_any (d:List UInt8) (w:World) (hd:d.all digit=true) (h0:d≠[]) (hl:d.length≤2000) (hv:ErrV w) :
  Calls Tryz.prog 217 #[.string (lit d)] w fun e w'=>((∃ n,Go.Lib.atoiAll d=.ok n∧e=.returned (.tuple #[.int .i64 n,.nilIface]))∨(Go.Lib.atoiAll d=.range∧∃ z t q,e=.returned (.tuple #[.int .i64 z,.iface t q])))∧Below w.heap.size w w':=by
 have hs:(lit d).size≤2000:=by rw [lit_size];exact hl
 cases hr:Go.Lib.atoiAll d with
 | ok n =>
  refine (Tryz.strconv_Atoi_ok (lit d) (by omega) n (by rw [lit_data];exact hr) w).mono ?_
  rintro e w' ⟨he,hw⟩
  refine ⟨.inl ⟨n,rfl,he⟩,?_⟩
  rcases hw with rfl | ⟨t,rfl⟩
  ·exact Below.refl _ _
  ·exact Lib.bytesWorld_below _ _ _
 | range =>
  obtain ⟨tp,p,hv⟩:=hv
  refine (Tryz.strconv_Atoi_range_var (lit d) (by omega) (by rw [lit_data];exact hr) tp p w hv).mono ?_
  rintro e w' ⟨N,he,_,_,hb⟩
  exact ⟨.inr ⟨rfl,_,_,_,he⟩,hb⟩
 | «syntax»=>exact absurd hr (atoi_digits hd h0)
end Go.Proofs.YtoldmigappbjcaaGreatDoor
namespace Go.GrainU
open Go.RowKit
theorem lit_head {c:UInt8} {t:List UInt8}:∃ h:0<(lit (c::t)).size,(lit (c::t))[0]'h=c:=by
 refine ⟨by rw [lit_size];simp,?_⟩
 simp [lit]
 rfl
theorem numb_of {least most:Int} {r d:List UInt8} (hd:d=(skip r).takeWhile digit) (h0:d≠[]) {n:Int} (hn:Go.Lib.atoiAll d=.ok n) :
  numb least most r=if numOk least most d n=true then .ok (n,(skip r).dropWhile digit) else .error (3,(skip r).length):=by
 unfold numb
 rw [← hd,if_neg h0,hn]
end Go.GrainU
namespace Go.Proofs.YtoldmigappbjcaaGreatDoor
open Go.RowKit Go.GrainU
set_option maxHeartbeats 4000000 in
theorem number_any (least most:Int) (s:ByteArray) (st:St) (B:Nat) (w0 w:World) (h:Rd 95 w B s st) (hs:s.size≤2000) (hv:ErrV w0) (hb0:Below w0.heap.size w0 w) (hB0:w0.heap.size≤B) :
  Calls Tryz.prog 188 #[.pointer (some ⟨B,0,none⟩),.int .i64 least,.int .i64 most] w fun e w'=>((∃ n r,numb least most st.r=.ok (n,r)∧e=.returned (.int .i64 n)∧Rd 95 w' B s ⟨r,st.n⟩)∨∃ f,numb least most st.r=.error f∧e=.panicked [thr s f])∧w.grownBy w' (some B):=by
 have HB:=hide (rbegin_any s st B w h hs)
 have HW:=hide (run_digits s st B w h hs)
 have hlen:(skip st.r).length≤2000:=by have:=suf_len ((skip_suf st.r).trans h.suf);omega
 obtain ⟨d,hd⟩:∃ d,d=(skip st.r).takeWhile digit:=⟨_,rfl⟩
 obtain ⟨r,hr⟩:∃ r,r=(skip st.r).dropWhile digit:=⟨_,rfl⟩
 have hall:d.all digit=true:=by rw [hd];exact take_all _ _
 have hdl:d.length≤2000:=by
  rw [hd]
  exact Nat.le_trans (List.takeWhile_prefix _).length_le hlen
 rw [← hd,← hr] at HW
 obtain ⟨K,hK⟩:∃ K,K=pos s (skip st.r):=⟨_,rfl⟩
 rw [← hK] at HB
 have HK:=hide hK
 have HD:=hide hd
 have HR:=hide hr
 have HV:=hide hv
 have HB0:=hide hb0
 clear hK hd hr hv hb0
 cases d with
 | nil =>
  have HE:Hid (numb least most st.r=.error (2,(skip st.r).length)):=by show _=_;unfold numb;rw [← HD.out,if_pos rfl]
  unfold lit at HW
  go_enter Tryz.func188,Tryz.ntmps188
  go_wp2_with fail
  refine HB.out.mono ?_
  intro e w1 hh
  rw [hh.1,hh.2]
  clear hh
  go_wp2_with fail
  refine HW.out.mono ?_
  rintro e w1 ⟨rfl,h1,g1⟩
  go_wp2_with fail
  refine (throw_any _ _ w1).mono ?_
  intro e w2 hh
  rw [hh.1,hh.2]
  clear hh
  go_wp2_with fail
  exact ⟨rfl,.inr ⟨_,HE.out,by rw [HK.out];rfl⟩,g1⟩
 | cons c t =>
  have HX0:Hid (lit (c::t)≠lit []):=fun e=>by
   have:=congrArg (fun b:ByteArray=>b.data.toList) e
   simp [lit] at this
  have q:=word_not (l:=[]) HX0.out
  obtain ⟨hlt,hhd⟩:=lit_head (c:=c) (t:=t)
  obtain ⟨D,hDD⟩:∃ D,D=lit (c::t):=⟨_,rfl⟩
  have HAT:=hide (fun w' (hv':ErrV w')=>atoi_any (c::t) w' hall (by simp) hdl hv')
  have hL:D.size=t.length+1:=by rw [hDD,lit_size];simp
  have hlt':0<D.size:=by rw [hDD];exact hlt
  have hc':((D[0]'hlt').toNat:Int)=(c.toNat:Int):=by simp only [hDD];rw [hhd]
  rw [← hDD] at q HW HAT
  obtain ⟨C,hC⟩:∃ C:Int,C=(c.toNat:Int):=⟨_,rfl⟩
  rw [← hC] at hc'
  obtain ⟨L,hLL⟩:∃ L,L=D.size:=⟨_,rfl⟩
  have hL':D.size=L:=hLL.symm
  have hLt:L=t.length+1:=by rw [hLL,hL]
  have hlt0:(0:Int)<(D.size:Int):=by omega
  clear hDD hhd hlt hL hLL
  go_enter Tryz.func188,Tryz.ntmps188
  go_wp2_with fail
  refine HB.out.mono ?_
  intro e w1 hh
  rw [hh.1,hh.2]
  clear hh
  go_wp2_with fail
  refine HW.out.mono ?_
  rintro e w1 ⟨rfl,h1,g1⟩
  go_wp2_with fail
  refine (HAT.out w1 (HV.out.below (HB0.out.grown g1 HB0.out.size (fun j hj=>by cases hj;exact hB0)))).mono ?_
  rintro e w2 ⟨⟨n,hn,rfl⟩ | ⟨hn,z,t2,q2,rfl⟩,b2⟩
  ·have HN:=hide (numb_of (least:=least) (most:=most) HD.out (by simp) hn)
   rw [← HR.out] at HN
   have h2:=h1.below b2
   have g2:=grown_call g1 b2
   clear hn h1 g1 b2 hall hdl
   by_cases hz:1<t.length+1∧c=48
   ·have HE:Hid (numb least most st.r=.error (3,(skip st.r).length)):=by show _=_;rw [HN.out,if_neg];simp [numOk,hz]
    have eC:(C == 48)=true:=by rw [hC,hz.2];rfl
    have eL:(1:Int)<(L:Int):=by omega
    clear hz hC
    go_wp2_with fail
    refine (throw_any _ _ w2).mono ?_
    intro e w3 hh
    rw [hh.1,hh.2]
    clear hh
    go_wp2_with fail
    exact ⟨rfl,.inr ⟨_,HE.out,by rw [HK.out];rfl⟩,g2⟩
   ·have HO:Hid (numOk least most (c::t) n=(decide (least≤n) && decide (n≤most))):=by
     show _=_
     unfold numOk
     have:(decide (1<(c::t).length) && (c::t).headD 0 == 48)=false:=by
      simp only [List.length_cons,List.headD_cons]
      rw [Bool.and_eq_false_iff]
      by_cases h1:1<t.length+1
      ·right
       rw [beq_eq_false_iff_ne]
       exact fun e=>hz ⟨h1,e⟩
      ·left;simpa using h1
     rw [this];rfl
    have HT:Hid ((1:Int)<(L:Int)→(C == 48)=false):=fun h1=>by
     rw [hC,beq_eq_false_iff_ne]
     intro h48
     apply hz
     refine ⟨by omega,?_⟩
     apply UInt8.toNat_inj.1
     have:(48:UInt8).toNat=48:=rfl
     omega
    clear hz hC
    by_cases hn1:n<least
    ·have HE:Hid (numb least most st.r=.error (3,(skip st.r).length)):=by show _=_;rw [HN.out,HO.out,if_neg];simp;omega
     by_cases h1:(1:Int)<(L:Int)
     ·have eC:=HT.out h1
      go_wp2_with fail
      refine (throw_any _ _ w2).mono ?_
      intro e w3 hh
      rw [hh.1,hh.2]
      clear hh
      go_wp2_with fail
      exact ⟨rfl,.inr ⟨_,HE.out,by rw [HK.out];rfl⟩,g2⟩
     ·go_wp2_with fail
      refine (throw_any _ _ w2).mono ?_
      intro e w3 hh
      rw [hh.1,hh.2]
      clear hh
      go_wp2_with fail
      exact ⟨rfl,.inr ⟨_,HE.out,by rw [HK.out];rfl⟩,g2⟩
    ·by_cases hn2:most<n
     ·have HE:Hid (numb least most st.r=.error (3,(skip st.r).length)):=by show _=_;rw [HN.out,HO.out,if_neg];simp;omega
      by_cases h1:(1:Int)<(L:Int)
      ·have eC:=HT.out h1
       go_wp2_with fail
       refine (throw_any _ _ w2).mono ?_
       intro e w3 hh
       rw [hh.1,hh.2]
       clear hh
       go_wp2_with fail
       exact ⟨rfl,.inr ⟨_,HE.out,by rw [HK.out];rfl⟩,g2⟩
      ·go_wp2_with fail
       refine (throw_any _ _ w2).mono ?_
       intro e w3 hh
       rw [hh.1,hh.2]
       clear hh
       go_wp2_with fail
       exact ⟨rfl,.inr ⟨_,HE.out,by rw [HK.out];rfl⟩,g2⟩
     ·have HE:Hid (numb least most st.r=.ok (n,r)):=by show _=_;rw [HN.out,HO.out,if_pos];simp;omega
      by_cases h1:(1:Int)<(L:Int)
      ·have eC:=HT.out h1
       go_wp2_with fail
       go_ret
       exact ⟨.inl ⟨n,r,HE.out,rfl,h2⟩,g2⟩
      ·go_wp2_with fail
       go_ret
       exact ⟨.inl ⟨n,r,HE.out,rfl,h2⟩,g2⟩
  ·have HE:Hid (numb least most st.r=.error (3,(skip st.r).length)):=by show _=_;unfold numb;rw [← HD.out,if_neg (by simp),hn]
   have g2:=grown_call g1 b2
   clear hn
   go_wp2_with fail
   refine (throw_any _ _ w2).mono ?_
   intro e w3 hh
   rw [hh.1,hh.2]
   clear hh
   go_wp2_with fail
   exact ⟨rfl,.inr ⟨_,HE.out,by rw [HK.out];rfl⟩,g2⟩
open Go.RowKit Go.GrainU
set_option maxHeartbeats 2000000 in
theorem ended_any (t:ET) (s:ByteArray) (st:St) (B:Nat) (w:World) (h:Rd 95 w B s st) (hn:st.n≤1000) :
  Calls Tryz.prog 146 #[.pointer (some ⟨B,0,none⟩),eval t] w fun e w'=>((fin t.ex st=.ok (t.ex,⟨st.r,st.n+1⟩)∧e=.returned (eval t)∧Rd 95 w' B s ⟨st.r,st.n+1⟩)∨(fin t.ex st=.error (4,st.r.length)∧e=.panicked [thr s (4,st.r.length)]))∧w.grownBy w' (some B):=by
 have hB:=h.lt
 obtain ⟨c0,c1,c2⟩:=h.cells
 obtain ⟨t0,t1,t2⟩:=h.thaw
 have R1:=h.nodes (st.n+1)
 simp only [Int.natCast_add] at R1
 have HR1:=hide R1
 obtain ⟨r,n⟩:=st
 simp only at c1 c2 hn HR1 ⊢
 clear R1
 unfold eval
 generalize t.hd.ms.length=ml
 generalize t.hd.bs.length=bl
 generalize t.kids.length=kl
 obtain ⟨P,hP⟩:∃ P,P=pos s r:=⟨_,rfl⟩
 rw [← hP] at c1
 have HP:=hide hP
 clear hP h
 have HG:Hid (w.grownBy ((w.setCell ⟨B,2,none⟩ (.int .i64 ((n:Int)+1))).alloc (.cells #[.int .i64 t.hd.kind,.int .i64 t.hd.n,.int .i64 t.hd.range,.string t.hd.word,.slice t.sp.ma ml t.sp.mc,.slice t.sp.ba bl t.sp.bc,.slice t.sp.ka kl t.sp.kc] 41)) (some B)) :=
  grown_trans grown_set8 (World.grownBy_alloc _ _ none) (fun _ hk=>by cases hk)
 by_cases h1:100<n+1
 ·have h1':(100:Int)<(n:Int)+1:=by omega
  have HE:Hid (fin t.ex ⟨r,n⟩=.error (4,r.length)):=by show _=_;simp only [fin];rw [if_pos h1]
  go_enter Tryz.func146,Tryz.ntmps146
  go_wp2_with fail
  refine (throw_any _ _ _).mono ?_
  intro e w2 hh
  rw [hh.1,hh.2]
  clear hh
  go_wp2_with fail
  exact ⟨rfl,.inr ⟨HE.out,by rw [HP.out];rfl⟩,grown_trans HG.out (World.grownBy_alloc _ _ none) (fun _ hk=>by cases hk)⟩
 ·have h1':¬ (100:Int)<(n:Int)+1:=by omega
  have HE:Hid (fin t.ex ⟨r,n⟩=.ok (t.ex,⟨r,n+1⟩)):=by show _=_;simp only [fin];rw [if_neg h1]
  go_enter Tryz.func146,Tryz.ntmps146
  go_wp2
  exact bodyPost_ret (v:=.agg #[.int .i64 t.hd.kind,.int .i64 t.hd.n,.int .i64 t.hd.range,.string t.hd.word,.slice t.sp.ma ml t.sp.mc,.slice t.sp.ba bl t.sp.bc,.slice t.sp.ka kl t.sp.kc]) (by simp [results,Tryz.results146,go_sem]) rfl
   ⟨.inl ⟨HE.out,rfl,(HR1.out.alloc _).alloc _⟩,grown_trans HG.out (World.grownBy_alloc _ _ none) (fun _ hk=>by cases hk)⟩
end Go.Proofs.YtoldmigappbjcaaGreatDoor
namespace Go.GrainU
open Go.RowKit
def slen:Value→Nat
 | .slice _ n _=>n
 | _=>0
theorem own_grown {w w':World} {base e size n B:Nat} {v:Value} {xs:List Value} (h:w.ownsRow base e size v n xs) (g:w.grownBy w' (some B)) (hB:B<base):w'.ownsRow base e size v n xs:=by
 refine ⟨h.1,?_⟩
 rcases h.2 with h0 | ⟨b,cap,cur,hv,hb,hblk,rest⟩
 ·exact .inl h0
 ·exact .inr ⟨b,cap,cur,hv,hb,grown_block g hblk (by omega),rest⟩
theorem Rd.app {t:TypeId} {w w':World} {B base e size n:Nat} {v:Value} {xs:List Value} {s:ByteArray} {st:St} (h:Rd t w B s st) (hB:B<base) (own:w.ownsRow base e size v n xs) (g:w.grownBy w' v.ownBlock):Rd t w' B s st :=
 ⟨h.suf,by rw [g.block B h.lt (fun e=>by have:=(own.lt B e.symm).1;omega)];exact h.blk⟩
theorem news_three {W:World} {B:Nat} (hB:W.heap.size=B) (x y z:Value) (t:TypeId):∀ j u,[x,y,z][j]?=some u→(W.alloc (.cells #[x,y,z] t)).cell? ((⟨B,0,none⟩:Addr).add j)=some u:=by
 intro j u hj
 subst hB
 have:=three_cells7 (heap_alloc_new W (.cells #[x,y,z] t))
 match j,hj with
 | 0,hj=>simp at hj;rw [← hj];exact this.1
 | 1,hj=>simp at hj;rw [← hj];exact this.2.1
 | 2,hj=>simp at hj;rw [← hj];exact this.2.2
 | j+3,hj=>simp at hj
theorem mcells_snoc (l:List Mt) (m:Mt):mcells (l++[m])=mcells l++[.int .i64 m.kind,.string m.key,.string m.val]:=by
 induction l with
 | nil=>rfl
 | cons x r ih=>simp [mcells,ih]
theorem lstF_none {α:Type} {part:List UInt8→Except Flt (α×List UInt8)} {most k:Nat} {l:List α} {r:List UInt8} (h:acc [44] r=none):lstF part most (k+1) l r=.ok (l,r):=by unfold lstF;rw [h]
theorem lstF_full {α:Type} {part:List UInt8→Except Flt (α×List UInt8)} {most k:Nat} {l:List α} {r r1:List UInt8} (h:acc [44] r=some r1) (hl:l.length=most):lstF part most (k+1) l r=.error (5,r1.length):=by unfold lstF;rw [h];simp [hl]
theorem lstF_err {α:Type} {part:List UInt8→Except Flt (α×List UInt8)} {most k:Nat} {l:List α} {r r1:List UInt8} {f:Flt} (h:acc [44] r=some r1) (hl:l.length≠most) (hp:part r1=.error f):lstF part most (k+1) l r=.error f:=by unfold lstF;rw [h];simp [hl,hp]
theorem lstF_ok {α:Type} {part:List UInt8→Except Flt (α×List UInt8)} {most k:Nat} {l:List α} {r r1 r2:List UInt8} {a:α} (h:acc [44] r=some r1) (hl:l.length≠most) (hp:part r1=.ok (a,r2)):lstF part most (k+1) l r=lstF part most k (l++[a]) r2:=by
 rw [lstF]
 rw [h]
 simp [hl,hp]
end Go.GrainU
namespace Go.Proofs.YtoldmigappbjcaaGreatDoor
open Go.RowKit Go.GrainU
theorem Tryz.infoMatch:(Tryz.prog.info? 183).map (fun i=>(i.zero,i.size,i.bytes))=some (some (.agg #[.int .i64 0,.string ⟨#[]⟩,.string ⟨#[]⟩]),3,40):=by kernel_rfl
set_option maxHeartbeats 4000000 in
theorem listm_any (s:ByteArray) (st:St) (B:Nat) (w:World) (h:Rd 95 w B s st) (hs:s.size≤2000) :
  Calls Tryz.prog 221 #[.pointer (some ⟨B,0,none⟩),.int .i64 5,.func (.func 222) #[.pointer (some ⟨B,0,none⟩)] #[]] w fun e w'=>((∃ l r co N c,lst mtc 5 st.r=.ok (l,r)∧e=.returned (.slice co N c)∧w'.ownsRow w.heap.size 183 3 (.slice co N c) N (mcells l)∧Rd 95 w' B s ⟨r,st.n⟩)∨∃ f,lst mtc 5 st.r=.error f∧e=.panicked [thr s f])∧w.grownBy w' (some B):=by
 obtain ⟨i0,hi,hz0,hz1,hz2⟩:=info_parts Tryz.infoMatch
 have hB:=h.lt
 have HP:=hide (pmatch_read s st B w h hs)
 go_enter Tryz.func221,Tryz.ntmps221
 go_wp2_with fail
 refine HP.out.mono ?_
 rintro e w1 ⟨⟨m,r1,hx,rfl,h1⟩ | ⟨f,hf,rfl⟩,g1⟩
 ·have HX:Hid (lst mtc 5 st.r=lstF mtc 5 5 [m] r1):=by show _=_;unfold lst;rw [hx]
  have hsz1:=g1.size
  have OW:(w1.alloc (.cells #[.int .i64 m.kind,.string m.key,.string m.val] 183)).ownsRow w.heap.size 183 3 (.slice (some ⟨w1.heap.size,0,none⟩) 1 1) 1 (mcells [m]) :=
   ⟨rfl,.inr ⟨w1.heap.size,1,#[.int .i64 m.kind,.string m.key,.string m.val],rfl,hsz1,heap_alloc_new w1 _,Nat.le_refl _,by unfold maxLen;omega,rfl,rfl⟩⟩
  have RW:=h1.alloc (.cells #[.int .i64 m.kind,.string m.key,.string m.val] 183)
  have GW:=grown_trans g1 (World.grownBy_alloc w1 (.cells #[.int .i64 m.kind,.string m.key,.string m.val] 183) none) (fun _ hk=>by cases hk)
  have HO:=hide OW
  have HRW:=hide RW
  have HGW:=hide GW
  clear OW RW GW hx HP h1 g1
  go_wp2_with fail
  go_loopw [7] (fun out wr=>∃ (k N c:Nat) (co:Option Addr) (l:List Mt) (q:List UInt8),out=.slice co N c∧Hid (lst mtc 5 st.r=lstF mtc 5 k l q∧k+N=5+1∧N=l.length)∧N≤5∧wr.ownsRow w.heap.size 183 3 (.slice co N c) N (mcells l)∧Rd 95 wr B s ⟨q,st.n⟩∧w.grownBy wr (some B)) (fun out _=>5+1-slen out)
  case atStart=>exact ⟨5,1,1,_,[m],r1,rfl,⟨HX.out,by omega,rfl⟩,by omega,HO.out,HRW.out,HGW.out⟩
  case round =>
   obtain ⟨k,N,c,co,l,q,rfl,HL,hN,own,R,gr⟩:=hrel
   clear HX HO HRW HGW
   have A1:=hide (accept_any [44] s ⟨q,st.n⟩ B wr R hs)
   unfold lit at A1
   obtain ⟨k',hk'⟩:∃ k',k=k'+1:=⟨k-1,by have:=HL.out.2.1;omega⟩
   subst hk'
   cases ha:acc [44] q with
   | none =>
    rw [ha] at A1
    simp only [Option.getD_none,Option.isSome_none] at A1
    have HU:Hid (lst mtc 5 st.r=.ok (l,q)):=by show _=_;rw [HL.out.1,lstF_none ha]
    clear ha
    go_wp2_with fail
    refine A1.out.mono ?_
    rintro e w2 ⟨rfl,h2,g2⟩
    have own2:=own_grown own g2 hB
    have G2:=grown_trans gr g2 (fun _ hk=>.inl hk)
    go_wp2_with fail
    go_ret
    exact ⟨.inl ⟨l,q,co,N,c,HU.out,rfl,own2,h2⟩,G2⟩
   | some r2 =>
    rw [ha] at A1
    simp only [Option.getD_some,Option.isSome_some] at A1
    have HA:=hide ha
    clear ha
    go_wp2_with fail
    refine A1.out.mono ?_
    rintro e w2 ⟨rfl,h2,g2⟩
    have own2:=own_grown own g2 hB
    have G2:=grown_trans gr g2 (fun _ hk=>.inl hk)
    clear own R gr g2 A1
    by_cases hm:N=5
    ·have HE:Hid (lst mtc 5 st.r=.error (5,r2.length)):=by show _=_;rw [HL.out.1,lstF_full HA.out (by rw [← HL.out.2.2];exact hm)]
     have em:((N:Int) == 5)=true:=by rw [hm];rfl
     obtain ⟨c0,c1,c2⟩:=h2.cells
     simp only at c1
     obtain ⟨K,hK⟩:∃ K,K=pos s r2:=⟨_,rfl⟩
     rw [← hK] at c1
     have HK:=hide hK
     clear hm hK
     go_wp2_with fail
     refine (throw_any _ _ w2).mono ?_
     intro e w3 hh
     rw [hh.1,hh.2]
     clear hh
     go_wp2_with fail
     exact ⟨rfl,.inr ⟨_,HE.out,by rw [HK.out];rfl⟩,G2⟩
    ·have em:((N:Int) == 5)=false:=by rw [beq_eq_false_iff_ne];omega
     have HNE:Hid (l.length≠5):=by rw [← HL.out.2.2];exact hm
     have hN2:N+1≤5:=by omega
     clear hm
     go_wp2_with fail
     refine (pmatch_read s ⟨r2,st.n⟩ B w2 h2 hs).mono ?_
     rintro e w3 ⟨⟨m,r3,hx,rfl,h3⟩ | ⟨f,hf,rfl⟩,g3⟩
     ·have own3:=own_grown own2 g3 hB
      have G3:=grown_trans G2 g3 (fun _ hk=>.inl hk)
      have hs3:=G3.size
      have HL2:Hid (lst mtc 5 st.r=lstF mtc 5 k' (l++[m]) r3∧k'+(N+1)=5+1∧N+1=(l++[m]).length):=⟨by rw [HL.out.1,lstF_ok HA.out HNE.out (hx)],by have:=HL.out.2.1;omega,by rw [List.length_append,← HL.out.2.2];rfl⟩
      clear hx HL own2 G2 h2 g3
      have RA:=h3.alloc (.cells #[.int .i64 m.kind,.string m.key,.string m.val] 183)
      have OA:=own3.alloc (.cells #[.int .i64 m.kind,.string m.key,.string m.val] 183)
      have HRA:=hide RA
      have HOA:=hide OA
      clear RA OA h3
      go_wp2_with (at_builtin;refine wpList_append_lies _ rfl _ _ 37 rfl w.heap.size 183 i0 (.agg #[.int .i64 0,.string ⟨#[]⟩,.string ⟨#[]⟩]) 3 40 Tryz.underlying37 hi hz0 hz1 hz2 rfl (by decide) _ _ _ rfl (own3.alloc _) ⟨w3.heap.size,0,none⟩ 1 1 [.int .i64 m.kind,.string m.key,.string m.val] rfl rfl (news_three rfl _ _ _ _) (by simp [Value.oneCell']) (by decide) (by unfold maxLen;omega) (by omega) (by simp;omega) (w3.heap.size+1) (by simp) ?_)
      intro g' cp' w5 own5 gr5 hat5 hlt5
      have own6:w5.ownsRow w.heap.size 183 3 (.slice (some ⟨g',0,none⟩) (N+1) cp') (N+1) (mcells (l++[m])):=by
       rw [mcells_snoc];exact own5
      have R5:=HRA.out.app hB HOA.out gr5
      have G5:w.grownBy w5 (some B):=grown_trans (grown_trans G3 (World.grownBy_alloc w3 (.cells #[.int .i64 m.kind,.string m.key,.string m.val] 183) none) (fun _ hk=>by cases hk)) gr5 (fun j hj=>.inr (HOA.out.lt j hj).1)
      clear own5 gr5 hat5 hlt5 own3 G3 HRA HOA
      go_wp2
      go_roundw
      case rel=>exact ⟨k',N+1,cp',_,l++[m],r3,rfl,HL2,by omega,own6,R5,G5⟩
      case measure=>simp [slen];omega
     ·have HE:Hid (lst mtc 5 st.r=.error f):=by show _=_;rw [HL.out.1,lstF_err HA.out HNE.out (hf)]
      have G3:=grown_trans G2 g3 (fun _ hk=>.inl hk)
      clear hf
      go_wp2_with fail
      exact ⟨rfl,.inr ⟨_,HE.out,rfl⟩,G3⟩
 ·have HE:Hid (lst mtc 5 st.r=.error f):=by show _=_;unfold lst;rw [hf]
  clear hf
  go_wp2_with fail
  exact ⟨rfl,.inr ⟨_,HE.out,rfl⟩,g1⟩
theorem words1_ok {r x r':List UInt8} (h:wrd r=.ok (x,r')):words1 r=.ok (lit x,r'):=by unfold words1;rw [h]
theorem words1_no {r:List UInt8} {f:Flt} (h:wrd r=.error f):words1 r=.error f:=by unfold words1;rw [h]
set_option maxHeartbeats 4000000 in
theorem listw_any (s:ByteArray) (st:St) (B:Nat) (w:World) (h:Rd 95 w B s st) (hs:s.size≤2000) :
  Calls Tryz.prog 220 #[.pointer (some ⟨B,0,none⟩),.int .i64 4,.func (.func 218) #[.pointer (some ⟨B,0,none⟩)] #[]] w fun e w'=>((∃ l r co N c,lst words1 4 st.r=.ok (l,r)∧e=.returned (.slice co N c)∧w'.ownsRow w.heap.size 9 1 (.slice co N c) N (wcells l)∧Rd 95 w' B s ⟨r,st.n⟩)∨∃ f,lst words1 4 st.r=.error f∧e=.panicked [thr s f])∧w.grownBy w' (some B):=by
 obtain ⟨i0,hi,hz0,hz1,hz2⟩:=info_parts Tryz.infoStr
 have hB:=h.lt
 have HP:=hide (word_any s st B w h hs)
 go_enter Tryz.func220,Tryz.ntmps220
 go_wp2_with fail
 refine HP.out.mono ?_
 rintro e w1 ⟨⟨x,r1,hx,rfl,h1⟩ | ⟨f,hf,rfl⟩,g1⟩
 ·have HX:Hid (lst words1 4 st.r=lstF words1 4 4 [lit x] r1):=by show _=_;unfold lst;rw [words1_ok hx]
  have hsz1:=g1.size
  have OW:(w1.alloc (.cells #[.string (lit x)] 9)).ownsRow w.heap.size 9 1 (.slice (some ⟨w1.heap.size,0,none⟩) 1 1) 1 (wcells [lit x]) :=
   ⟨rfl,.inr ⟨w1.heap.size,1,#[.string (lit x)],rfl,hsz1,heap_alloc_new w1 _,Nat.le_refl _,by unfold maxLen;omega,rfl,rfl⟩⟩
  have RW:=h1.alloc (.cells #[.string (lit x)] 9)
  have GW:=grown_trans g1 (World.grownBy_alloc w1 (.cells #[.string (lit x)] 9) none) (fun _ hk=>by cases hk)
  have HO:=hide OW
  have HRW:=hide RW
  have HGW:=hide GW
  clear OW RW GW hx HP h1 g1
  go_wp2_with fail
  go_loopw [7] (fun out wr=>∃ (k N c:Nat) (co:Option Addr) (l:List ByteArray) (q:List UInt8),out=.slice co N c∧Hid (lst words1 4 st.r=lstF words1 4 k l q∧k+N=4+1∧N=l.length)∧N≤4∧wr.ownsRow w.heap.size 9 1 (.slice co N c) N (wcells l)∧Rd 95 wr B s ⟨q,st.n⟩∧w.grownBy wr (some B)) (fun out _=>4+1-slen out)
  case atStart=>exact ⟨4,1,1,_,[lit x],r1,rfl,⟨HX.out,by omega,rfl⟩,by omega,HO.out,HRW.out,HGW.out⟩
  case round =>
   obtain ⟨k,N,c,co,l,q,rfl,HL,hN,own,R,gr⟩:=hrel
   clear HX HO HRW HGW
   have A1:=hide (accept_any [44] s ⟨q,st.n⟩ B wr R hs)
   unfold lit at A1
   obtain ⟨k',hk'⟩:∃ k',k=k'+1:=⟨k-1,by have:=HL.out.2.1;omega⟩
   subst hk'
   cases ha:acc [44] q with
   | none =>
    rw [ha] at A1
    simp only [Option.getD_none,Option.isSome_none] at A1
    have HU:Hid (lst words1 4 st.r=.ok (l,q)):=by show _=_;rw [HL.out.1,lstF_none ha]
    clear ha
    go_wp2_with fail
    refine A1.out.mono ?_
    rintro e w2 ⟨rfl,h2,g2⟩
    have own2:=own_grown own g2 hB
    have G2:=grown_trans gr g2 (fun _ hk=>.inl hk)
    go_wp2_with fail
    go_ret
    exact ⟨.inl ⟨l,q,co,N,c,HU.out,rfl,own2,h2⟩,G2⟩
   | some r2 =>
    rw [ha] at A1
    simp only [Option.getD_some,Option.isSome_some] at A1
    have HA:=hide ha
    clear ha
    go_wp2_with fail
    refine A1.out.mono ?_
    rintro e w2 ⟨rfl,h2,g2⟩
    have own2:=own_grown own g2 hB
    have G2:=grown_trans gr g2 (fun _ hk=>.inl hk)
    clear own R gr g2 A1
    by_cases hm:N=4
    ·have HE:Hid (lst words1 4 st.r=.error (5,r2.length)):=by show _=_;rw [HL.out.1,lstF_full HA.out (by rw [← HL.out.2.2];exact hm)]
     have em:((N:Int) == 4)=true:=by rw [hm];rfl
     obtain ⟨c0,c1,c2⟩:=h2.cells
     simp only at c1
     obtain ⟨K,hK⟩:∃ K,K=pos s r2:=⟨_,rfl⟩
     rw [← hK] at c1
     have HK:=hide hK
     clear hm hK
     go_wp2_with fail
     refine (throw_any _ _ w2).mono ?_
     intro e w3 hh
     rw [hh.1,hh.2]
     clear hh
     go_wp2_with fail
     exact ⟨rfl,.inr ⟨_,HE.out,by rw [HK.out];rfl⟩,G2⟩
    ·have em:((N:Int) == 4)=false:=by rw [beq_eq_false_iff_ne];omega
     have HNE:Hid (l.length≠4):=by rw [← HL.out.2.2];exact hm
     have hN2:N+1≤4:=by omega
     clear hm
     go_wp2_with fail
     refine (word_any s ⟨r2,st.n⟩ B w2 h2 hs).mono ?_
     rintro e w3 ⟨⟨x,r3,hx,rfl,h3⟩ | ⟨f,hf,rfl⟩,g3⟩
     ·have own3:=own_grown own2 g3 hB
      have G3:=grown_trans G2 g3 (fun _ hk=>.inl hk)
      have hs3:=G3.size
      have HL2:Hid (lst words1 4 st.r=lstF words1 4 k' (l++[lit x]) r3∧k'+(N+1)=4+1∧N+1=(l++[lit x]).length):=⟨by rw [HL.out.1,lstF_ok HA.out HNE.out (words1_ok hx)],by have:=HL.out.2.1;omega,by rw [List.length_append,← HL.out.2.2];rfl⟩
      clear hx HL own2 G2 h2 g3
      have RA:=h3.alloc (.cells #[.string (lit x)] 9)
      have OA:=own3.alloc (.cells #[.string (lit x)] 9)
      have HRA:=hide RA
      have HOA:=hide OA
      clear RA OA h3
      go_wp2_with (at_builtin;refine wpList_append_lies _ rfl _ _ 38 rfl w.heap.size 9 i0 (.string ⟨#[]⟩) 1 16 Tryz.underlying38 hi hz0 hz1 hz2 rfl (by decide) _ _ _ rfl (own3.alloc _) ⟨w3.heap.size,0,none⟩ 1 1 [.string (lit x)] rfl rfl (news_one rfl _ _) (by simp [Value.oneCell']) (by decide) (by unfold maxLen;omega) (by omega) (by simp;omega) (w3.heap.size+1) (by simp) ?_)
      intro g' cp' w5 own5 gr5 hat5 hlt5
      have own6:w5.ownsRow w.heap.size 9 1 (.slice (some ⟨g',0,none⟩) (N+1) cp') (N+1) (wcells (l++[lit x])):=by
       rw [wcells_snoc];exact own5
      have R5:=HRA.out.app hB HOA.out gr5
      have G5:w.grownBy w5 (some B):=grown_trans (grown_trans G3 (World.grownBy_alloc w3 (.cells #[.string (lit x)] 9) none) (fun _ hk=>by cases hk)) gr5 (fun j hj=>.inr (HOA.out.lt j hj).1)
      clear own5 gr5 hat5 hlt5 own3 G3 HRA HOA
      go_wp2
      go_roundw
      case rel=>exact ⟨k',N+1,cp',_,l++[lit x],r3,rfl,HL2,by omega,own6,R5,G5⟩
      case measure=>simp [slen];omega
     ·have HE:Hid (lst words1 4 st.r=.error f):=by show _=_;rw [HL.out.1,lstF_err HA.out HNE.out (words1_no hf)]
      have G3:=grown_trans G2 g3 (fun _ hk=>.inl hk)
      clear hf
      go_wp2_with fail
      exact ⟨rfl,.inr ⟨_,HE.out,rfl⟩,G3⟩
 ·have HE:Hid (lst words1 4 st.r=.error f):=by show _=_;unfold lst;rw [words1_no hf]
  clear hf
  go_wp2_with fail
  exact ⟨rfl,.inr ⟨_,HE.out,rfl⟩,g1⟩
end Go.Proofs.YtoldmigappbjcaaGreatDoor
namespace Go.GrainU
open Go.RowKit
def cut (b:Nat) (w:World):World:={ w with heap:=w.heap.mapIdx fun i o=>if i<b then .cells #[] 0 (0,0) else o }
theorem cut_size (b:Nat) (w:World):(cut b w).heap.size=w.heap.size:=by simp [cut]
theorem cut_far {b k:Nat} {w:World} (h:b≤k):(cut b w).heap[k]?=w.heap[k]?:=by
 simp only [cut,Array.getElem?_mapIdx]
 cases w.heap[k]? with
 | none=>rfl
 | some o=>simp [show ¬ k<b from by omega]
theorem cut_near {b k:Nat} {w:World} (h:k<b) (hk:k<w.heap.size):(cut b w).heap[k]?=some (.cells #[] 0 (0,0)):=by
 simp only [cut,Array.getElem?_mapIdx,Array.getElem?_eq_getElem hk]
 simp [h]
theorem cut_cell {b k o:Nat} {w:World} (h:b≤k):(cut b w).cell? ⟨k,o,none⟩=w.cell? ⟨k,o,none⟩:=by
 simp [World.cell?,cut_far h]
theorem cut_none {b k o:Nat} {w:World} {v:Value} (h:(cut b w).cell? ⟨k,o,none⟩=some v):b≤k:=by
 rcases Nat.lt_or_ge k b with e | e
 ·have hl:=World.block_lt_of_cell? _ _ h
  rw [cut_size] at hl
  simp [World.cell?,cut_near e hl] at h
 ·exact e
theorem rseg_cut {b:Nat} {w:World} {ao:Option Addr} {xs:List Value} (h:Seg w ao xs) (hne:∀ k off,ao=some ⟨k,off,none⟩→b≤k):Seg (cut b w) ao xs:=by
 rcases h with h | ⟨k,off,rfl,h⟩
 ·exact .inl h
 ·exact .inr ⟨k,off,rfl,fun j hj=>by rw [cut_cell (hne k off rfl)];exact h j hj⟩
theorem seg_low {b b':Nat} {w:World} {ao:Option Addr} {xs:List Value} (hb:b'≤b) (h:Seg (cut b w) ao xs):Seg (cut b' w) ao xs:=by
 rcases h with h | ⟨k,off,rfl,h⟩
 ·exact .inl h
 ·cases xs with
  | nil=>exact .inl rfl
  | cons x r =>
   have hk:b≤k:=by
    have:=h 0 (by simp)
    simp only [Nat.add_zero,List.getElem?_cons_zero] at this
    exact cut_none this
   exact .inr ⟨k,off,rfl,fun j hj=>by rw [cut_cell (by omega),← cut_cell hk];exact h j hj⟩
theorem cut_zero (w:World):cut 0 w=w:=by
 unfold cut
 congr 1
 apply Array.ext
 ·simp
 ·intro i h1 h2;simp
theorem ET.In.low {b b':Nat} {w:World} (hb:b'≤b):∀ t:ET,t.In (cut b w)→t.In (cut b' w):=by
 refine ET.ind ?_
 intro h s kids ih hin
 simp only [ET.In] at hin ⊢
 obtain ⟨⟨a,c,e⟩,d,f⟩:=hin
 exact ⟨⟨seg_low hb a,seg_low hb c,seg_low hb e⟩,d,inL_of fun k hk=>ih k hk (inL_mem f k hk)⟩
theorem ET.In.whole {b:Nat} {w:World} {t:ET} (h:t.In (cut b w)):t.In w:=by
 have:=ET.In.low (Nat.zero_le b) t h
 rw [cut_zero] at this
 exact this
theorem cut_below {b:Nat} {w w':World} (ho:w'.os=w.os) (ht:w'.tape=w.tape) (hp:w'.output=w.output) (hsz:w.heap.size≤w'.heap.size) (hk:∀ k,b≤k→k<w.heap.size→w'.heap[k]?=w.heap[k]?) :
  Below (cut b w).heap.size (cut b w) (cut b w'):=by
 refine ⟨ho,ht,hp,by rw [cut_size,cut_size];exact hsz,fun k hl=>?_⟩
 rw [cut_size] at hl
 rcases Nat.lt_or_ge k b with e | e
 ·rw [cut_near e hl,cut_near e (by omega)]
 ·rw [cut_far e,cut_far e]
  exact hk k e hl
theorem ET.In.grown {b B:Nat} {w w':World} {t:ET} (h:t.In (cut b w)) (g:w.grownBy w' (some B)) (hB:B<b):t.In (cut b w') :=
 ET.In.below (cut_below g.os g.tape g.output g.size fun k hb hk=>g.block k hk (fun e=>by have:=Option.some.inj e;omega)) t h
theorem ET.In.far {b X o:Nat} {w:World} {t:ET} {v:Value} (h:t.In (cut b w)) (hX:X<b):t.In (cut b (w.setCell ⟨X,o,none⟩ v)) :=
 ET.In.below (cut_below (w:=w) (w':=w.setCell ⟨X,o,none⟩ v) rfl rfl rfl (by simp) fun k hb hk=>setCell_far (by omega)) t h
theorem own_cut {b:Nat} {w:World} {base e size n c:Nat} {co:Option Addr} {xs:List Value} (h:w.ownsRow base e size (.slice co n c) n xs) (hb:b≤base):Seg (cut b w) co xs∧n≤c:=by
 obtain ⟨ao,c',hv,sg,hc⟩:=own_open h
 simp at hv
 obtain ⟨rfl,rfl⟩:=hv
 refine ⟨rseg_cut sg fun k off e=>?_,hc⟩
 have:=(h.lt k (by rw [e];rfl)).1
 omega
open Go.RowKit
theorem set7 {w:World} {B:Nat} {x0 x1 x2 x3 x4 x5 x6:Value} {t:TypeId} (h:w.heap[B]?=some (.cells #[x0,x1,x2,x3,x4,x5,x6] t (0,0))) (y:Value) :
  (w.setCell ⟨B,2,none⟩ y).heap[B]?=some (.cells #[x0,x1,y,x3,x4,x5,x6] t (0,0))∧(w.setCell ⟨B,4,none⟩ y).heap[B]?=some (.cells #[x0,x1,x2,x3,y,x5,x6] t (0,0))∧(w.setCell ⟨B,5,none⟩ y).heap[B]?=some (.cells #[x0,x1,x2,x3,x4,y,x6] t (0,0))∧(w.setCell ⟨B,6,none⟩ y).heap[B]?=some (.cells #[x0,x1,x2,x3,x4,x5,y] t (0,0)):=by
 simp [World.setCell,Array.getElem?_modify,h]
theorem rown_far {w:World} {base e size n X o:Nat} {v u:Value} {xs:List Value} (h:w.ownsRow base e size v n xs) (hX:X<base):(w.setCell ⟨X,o,none⟩ u).ownsRow base e size v n xs:=by
 refine ⟨h.1,?_⟩
 rcases h.2 with h0 | ⟨b,cap,cur,hv,hb,hblk,rest⟩
 ·exact .inl h0
 ·exact .inr ⟨b,cap,cur,hv,hb,by rw [setCell_far (by omega)];exact hblk,rest⟩
theorem lstF_fit {α:Type} {part:List UInt8→Except Flt (α×List UInt8)} {Q:α→Prop} (hp:∀ r a r',part r=.ok (a,r')→Q a) {most:Nat}:∀ (k:Nat) (l:List α) (r:List UInt8) (l':List α) (r':List UInt8),(∀ a∈l,Q a)→lstF part most k l r=.ok (l',r')→(∀ a∈l',Q a)∧l'.length≤l.length+k:=by
 intro k
 induction k with
 | zero=>intro l r l' r' hl h;simp [lstF] at h;rw [← h.1];exact ⟨hl,Nat.le_refl _⟩
 | succ k ih =>
  intro l r l' r' hl h
  cases ha:acc [44] r with
  | none=>rw [lstF_none ha] at h;simp at h;rw [← h.1];exact ⟨hl,by omega⟩
  | some r1 =>
   by_cases hm:l.length=most
   ·rw [lstF_full ha hm] at h;cases h
   ·cases hq:part r1 with
    | error f=>rw [lstF_err ha hm hq] at h;cases h
    | ok x =>
     obtain ⟨a,r2⟩:=x
     rw [lstF_ok ha hm hq] at h
     have:=ih (l++[a]) r2 l' r' (fun b hb=>by
      rcases List.mem_append.1 hb with e | e
      ·exact hl b e
      ·rw [List.mem_singleton.1 e];exact hp r1 a r2 hq) h
     rw [List.length_append] at this
     exact ⟨this.1,by have:=this.2;simp at this;omega⟩
theorem lst_fit {α:Type} {part:List UInt8→Except Flt (α×List UInt8)} {Q:α→Prop} (hp:∀ r a r',part r=.ok (a,r')→Q a) {most:Nat} {r:List UInt8} {l:List α} {r':List UInt8} (h:lst part most r=.ok (l,r')):(∀ a∈l,Q a)∧l.length≤most+1:=by
 unfold lst at h
 cases hq:part r with
 | error f=>rw [hq] at h;cases h
 | ok x =>
  obtain ⟨a,r2⟩:=x
  rw [hq] at h
  have:=lstF_fit hp most [a] r2 l r' (fun b hb=>by rw [List.mem_singleton.1 hb];exact hp r a r2 hq) h
  exact ⟨this.1,by have:=this.2;simp at this;omega⟩
theorem wrd_len {r x r':List UInt8} (h:wrd r=.ok (x,r')):x.length≤12:=by
 unfold wrd at h
 split at h
 ·cases h
 ·split at h
  ·cases h
  ·rename_i h2
   injection h with h
   have h3:(anyW r).1.length=x.length:=by rw [h]
   omega
theorem mtc_fit {r r':List UInt8} {m:Mt} (h:mtc r=.ok (m,r')):m.key.size≤140737488355328∧m.val.size≤140737488355328:=by
 have key:∀ k:List UInt8,k.length≤12→(lit k).size≤140737488355328:=fun k hk=>by rw [lit_size];omega
 unfold mtc at h
 cases ha:acc [33] r with
 | some r1 =>
  rw [ha] at h
  simp only at h
  cases hw:wrd r1 with
  | error f=>rw [hw] at h;cases h
  | ok x =>
   obtain ⟨x,r2⟩:=x
   rw [hw] at h
   simp at h
   rw [← h.1]
   exact ⟨key x (wrd_len hw),key [] (by simp)⟩
 | none =>
  rw [ha] at h
  simp only at h
  cases hw:wrd r with
  | error f=>rw [hw] at h;cases h
  | ok x =>
   obtain ⟨x,r2⟩:=x
   rw [hw] at h
   simp only at h
   cases hb:acc [61] r2 with
   | some r3 =>
    rw [hb] at h
    simp only at h
    cases hy:wrd r3 with
    | error f=>rw [hy] at h;cases h
    | ok y =>
     obtain ⟨y,r4⟩:=y
     rw [hy] at h
     simp at h
     rw [← h.1]
     exact ⟨key x (wrd_len hw),key y (wrd_len hy)⟩
   | none =>
    rw [hb] at h
    simp only at h
    cases hc:acc [33,61] r2 with
    | some r3 =>
     rw [hc] at h
     simp only at h
     cases hy:wrd r3 with
     | error f=>rw [hy] at h;cases h
     | ok y =>
      obtain ⟨y,r4⟩:=y
      rw [hy] at h
      simp at h
      rw [← h.1]
      exact ⟨key x (wrd_len hw),key y (wrd_len hy)⟩
    | none =>
     rw [hc] at h
     simp at h
     rw [← h.1]
     exact ⟨key x (wrd_len hw),key [] (by simp)⟩
theorem own_mlen {w:World} {base e N:Nat} {v:Value} {l:List Mt} (h:w.ownsRow base e 3 v N (mcells l)):N=l.length:=by
 have:=h.1;rw [mcells_length] at this;omega
end Go.GrainU
namespace Go.Proofs.YtoldmigappbjcaaGreatDoor
open Go.RowKit Go.GrainU
set_option maxHeartbeats 4000000 in
theorem window_any (wd:ByteArray) (s:ByteArray) (st:St) (B:Nat) (w0 w:World) (h:Rd 95 w B s st) (hs:s.size≤2000) (hn:st.n≤1000) (hv:ErrV w0) (hb0:Below w0.heap.size w0 w) (hB0:w0.heap.size≤B) (hwd:wd.size≤100) :
  Calls Tryz.prog 191 #[.pointer (some ⟨B,0,none⟩),.string wd] w fun e w'=>((∃ t q,wnd wd st=.ok (ET.ex t,q)∧e=.returned (eval t)∧t.In (cut w.heap.size w')∧Rd 95 w' B s q)∨∃ f,wnd wd st=.error f∧e=.panicked [thr s f])∧w.grownBy w' (some B):=by
 have hB:=h.lt
 obtain ⟨X,hX⟩:∃ X,X=w.heap.size:=⟨_,rfl⟩
 obtain ⟨V,hV⟩:∃ V,V=(w.alloc (.cells #[.int .i64 0,.int .i64 0,.int .i64 0,.string ⟨#[]⟩,.slice none 0 0,.slice none 0 0,.slice none 0 0] 41)).alloc (.cells #[.int .i64 2,.int .i64 0,.int .i64 0,.string wd,.slice none 0 0,.slice none 0 0,.slice none 0 0] 41):=⟨_,rfl⟩
 have R0:Rd 95 V B s st:=by rw [hV];exact (h.alloc _).alloc _
 have G0:w.grownBy V (some B):=by rw [hV];exact grown_trans (grown_trans (World.grownBy.refl _ _) (World.grownBy_alloc _ _ none) (fun _ hk=>by cases hk)) (World.grownBy_alloc _ _ none) (fun _ hk=>by cases hk)
 have FX0:V.heap[X]?=some (.cells #[.int .i64 0,.int .i64 0,.int .i64 0,.string ⟨#[]⟩,.slice none 0 0,.slice none 0 0,.slice none 0 0] 41 (0,0)):=by
  rw [hV,hX,Below.heap_alloc _ _ _ (by simp)];exact heap_alloc_new w _
 have FY0:V.heap[X+1]?=some (.cells #[.int .i64 2,.int .i64 0,.int .i64 0,.string wd,.slice none 0 0,.slice none 0 0,.slice none 0 0] 41 (0,0)):=by
  have:=heap_alloc_new (w.alloc (.cells #[.int .i64 0,.int .i64 0,.int .i64 0,.string ⟨#[]⟩,.slice none 0 0,.slice none 0 0,.slice none 0 0] 41)) (.cells #[.int .i64 2,.int .i64 0,.int .i64 0,.string wd,.slice none 0 0,.slice none 0 0,.slice none 0 0] 41)
  rw [hV,hX];simpa using this
 have hXB:X≠B:=by omega
 have hYB:X+1≠B:=by omega
 have hV2:X+1<V.heap.size:=by rw [hV,hX];simp
 have HV:=hide hV
 have HX:=hide hX
 have HEV:=hide hv
 have HB0:=hide hb0
 have hXw:w.heap.size≤X:=by omega
 clear hV hX h hv hb0
 go_enter Tryz.func191,Tryz.ntmps191
 go_wp2_with fail
 rw [← HV.out,← HX.out]
 have E1:=hide (expect_any [40] s st B V R0 hs)
 unfold lit at E1
 refine E1.out.mono ?_
 rintro e w1 ⟨⟨r1,hx,rfl,R1⟩ | ⟨f,hf,rfl⟩,g⟩
 rotate_left
 ·have HE:Hid (wnd wd st=.error f):=by show _=_;simp only [wnd,hf]
  have G:=grown_trans G0 g (fun _ hk=>.inl hk)
  clear hf
  go_wp2_with fail
  exact ⟨rfl,.inr ⟨_,HE.out,rfl⟩,G⟩
 have Q1:=hide hx
 have G1:=grown_trans G0 g (fun _ hk=>.inl hk)
 have FX1:=grown_block g FX0 hXB
 have FY1:=grown_block g FY0 hYB
 clear hx g E1 G0 FX0 FY0 R0
 go_wp2_with fail
 have E2:=hide (expect_any [123] s ⟨r1,st.n⟩ B w1 R1 hs)
 unfold lit at E2
 refine E2.out.mono ?_
 rintro e w2 ⟨⟨r2,hx,rfl,R2⟩ | ⟨f,hf,rfl⟩,g⟩
 rotate_left
 ·have HE:Hid (wnd wd st=.error f):=by show _=_;simp only [wnd,Q1.out,hf]
  have G:=grown_trans G1 g (fun _ hk=>.inl hk)
  clear hf
  go_wp2_with fail
  exact ⟨rfl,.inr ⟨_,HE.out,rfl⟩,G⟩
 have Q2:=hide hx
 have G2:=grown_trans G1 g (fun _ hk=>.inl hk)
 have FX2:=grown_block g FX1 hXB
 have FY2:=grown_block g FY1 hYB
 clear hx g E2 G1 FX1 FY1 R1
 have A2:=hide (accept_any [125] s ⟨r2,st.n⟩ B w2 R2 hs)
 unfold lit at A2
 go_wp2_with fail
 cases ha:acc [125] r2 with
 | some r3 =>
  have Q3:Hid (wnM r2=.ok ([],r3)):=by show _=_;simp only [wnM,ha]
  rw [ha] at A2
  simp only [Option.getD_some,Option.isSome_some] at A2
  clear ha
  refine A2.out.mono ?_
  rintro e w3 ⟨rfl,R3,g⟩
  have G3:=grown_trans G2 g (fun _ hk=>.inl hk)
  have FX3:=grown_block g FX2 hXB
  have FY3:=grown_block g FY2 hYB
  clear g G2 FX2 FY2 R2 A2
  go_wp2_with fail
  have E4:=hide (expect_any [91] s ⟨r3,st.n⟩ B w3 R3 hs)
  unfold lit at E4
  refine E4.out.mono ?_
  rintro e w4 ⟨⟨r4,hx,rfl,R4⟩ | ⟨f,hf,rfl⟩,g⟩
  rotate_left
  ·have HE:Hid (wnd wd st=.error f):=by show _=_;simp only [wnd,Q1.out,Q2.out,Q3.out,hf]
   have G:=grown_trans G3 g (fun _ hk=>.inl hk)
   clear hf
   go_wp2_with fail
   exact ⟨rfl,.inr ⟨_,HE.out,rfl⟩,G⟩
  have Q4:=hide hx
  have G4:=grown_trans G3 g (fun _ hk=>.inl hk)
  have FX4:=grown_block g FX3 hXB
  have FY4:=grown_block g FY3 hYB
  clear hx g E4 G3 FX3 FY3 R3
  go_wp2_with fail
  refine (number_any 1 100000 s ⟨r4,st.n⟩ B w0 w4 R4 hs HEV.out (HB0.out.grown G4 HB0.out.size (fun j hj=>by cases hj;exact hB0)) hB0).mono ?_
  rintro e w5 ⟨⟨nn,r5,hx,rfl,R5⟩ | ⟨f,hf,rfl⟩,g⟩
  rotate_left
  ·have HE:Hid (wnd wd st=.error f):=by show _=_;simp only [wnd,Q1.out,Q2.out,Q3.out,Q4.out,hf]
   have G:=grown_trans G4 g (fun _ hk=>.inl hk)
   clear hf
   go_wp2_with fail
   exact ⟨rfl,.inr ⟨_,HE.out,rfl⟩,G⟩
  have Q5:=hide hx
  have G5:=grown_trans G4 g (fun _ hk=>.inl hk)
  have FX5:=grown_block g FX4 hXB
  have FY5:=grown_block g FY4 hYB
  clear hx g G4 FX4 FY4 R4
  obtain ⟨y0,y1,y2,y3,y4,y5,y6⟩:=seven_cells FY5
  obtain ⟨u0,u1,u2,u3,u4,u5,u6⟩:=thaw7 FY5
  obtain ⟨w6,hw6⟩:∃ v,v=w5.setCell ⟨X+1,2,none⟩ (.int .i64 nn):=⟨_,rfl⟩
  have R6:Rd 95 w6 B s ⟨r5,st.n⟩:=by rw [hw6];exact R5.far (Ne.symm hYB)
  have G6:w.grownBy w6 (some B):=by rw [hw6];exact grown_far G5 (by omega)
  have FX6:w6.heap[X]?=some (.cells #[.int .i64 0,.int .i64 0,.int .i64 0,.string ⟨#[]⟩,.slice none 0 0,.slice none 0 0,.slice none 0 0] 41 (0,0)):=by rw [hw6,setCell_far (by omega)];exact FX5
  have FY6:w6.heap[X+1]?=some (.cells #[.int .i64 2,.int .i64 0,.int .i64 nn,.string wd,.slice none 0 0,.slice none 0 0,.slice none 0 0] 41 (0,0)):=by rw [hw6];exact (set7 FY5 (.int .i64 nn)).1
  have HW6:=hide hw6
  clear hw6 G5 FX5 FY5 R5
  go_wp2_with fail
  rw [← HW6.out]
  clear y0 y1 y2 y3 y4 y5 y6 u0 u1 u2 u3 u4 u5 u6
  have E7:=hide (expect_any [93] s ⟨r5,st.n⟩ B w6 R6 hs)
  unfold lit at E7
  refine E7.out.mono ?_
  rintro e w7 ⟨⟨r7,hx,rfl,R7⟩ | ⟨f,hf,rfl⟩,g⟩
  rotate_left
  ·have HE:Hid (wnd wd st=.error f):=by show _=_;simp only [wnd,Q1.out,Q2.out,Q3.out,Q4.out,Q5.out,hf]
   have G:=grown_trans G6 g (fun _ hk=>.inl hk)
   clear hf
   go_wp2_with fail
   exact ⟨rfl,.inr ⟨_,HE.out,rfl⟩,G⟩
  have Q7:=hide hx
  have G7:=grown_trans G6 g (fun _ hk=>.inl hk)
  have FX7:=grown_block g FX6 hXB
  have FY7:=grown_block g FY6 hYB
  clear hx g E7 G6 FX6 FY6 R6
  go_wp2_with fail
  have E8:=hide (expect_any [41] s ⟨r7,st.n⟩ B w7 R7 hs)
  unfold lit at E8
  refine E8.out.mono ?_
  rintro e w8 ⟨⟨r8,hx,rfl,R8⟩ | ⟨f,hf,rfl⟩,g⟩
  rotate_left
  ·have HE:Hid (wnd wd st=.error f):=by show _=_;simp only [wnd,Q1.out,Q2.out,Q3.out,Q4.out,Q5.out,Q7.out,hf]
   have G:=grown_trans G7 g (fun _ hk=>.inl hk)
   clear hf
   go_wp2_with fail
   exact ⟨rfl,.inr ⟨_,HE.out,rfl⟩,G⟩
  have Q8:=hide hx
  have G8:=grown_trans G7 g (fun _ hk=>.inl hk)
  have FX8:=grown_block g FX7 hXB
  have FY8:=grown_block g FY7 hYB
  clear hx g E8 G7 FX7 FY7 R7
  obtain ⟨y0,y1,y2,y3,y4,y5,y6⟩:=seven_cells FY8
  obtain ⟨tt,htt⟩:∃ tt:ET,tt=.node ⟨2,0,nn,wd,[],[]⟩ ⟨none,0,none,0,none,0⟩ []:=⟨_,rfl⟩
  have HEND:=hide (ended_any tt s ⟨r8,st.n⟩ B w8 R8 hn)
  have hev:eval tt=.agg #[.int .i64 2,.int .i64 0,.int .i64 nn,.string wd,.slice none 0 0,.slice none 0 0,.slice none 0 0]:=by rw [htt];rfl
  have hex:tt.ex=.mk ⟨2,0,nn,wd,[],[]⟩ []:=by rw [htt];simp [ET.ex,exL]
  have HFIN:Hid (wnd wd st=fin tt.ex ⟨r8,st.n⟩):=by show _=_;rw [hex];simp only [wnd,Q1.out,Q2.out,Q3.out,Q4.out,Q5.out,Q7.out,Q8.out]
  have HIN:Hid (∀ v:World,tt.In (cut w.heap.size v)):=by
   intro v
   rw [htt]
   simp only [ET.In]
   exact ⟨⟨.inl rfl,.inl rfl,.inl rfl⟩,⟨by simp,by simp,by simp,by show wd.size≤_;omega,fun m hm=>by (cases hm),fun b hb=>by (cases hb),Nat.le_refl _,fun m hm=>by (cases hm)⟩,by simp [InL]⟩
  rw [hev] at HEND
  clear htt hex
  go_wp2_with fail
  refine HEND.out.mono ?_
  rintro e w9 ⟨⟨hx,rfl,R9⟩ | ⟨hf,rfl⟩,g⟩
  ·have HE:Hid (wnd wd st=.ok (tt.ex,⟨r8,st.n+1⟩)):=by show _=_;rw [HFIN.out,hx]
   have G9:=grown_trans G8 g (fun _ hk=>.inl hk)
   have FX9:=grown_block g FX8 hXB
   obtain ⟨z0,z1,z2,z3,z4,z5,z6⟩:=seven_cells FX9
   obtain ⟨u0,u1,u2,u3,u4,u5,u6⟩:=thaw7 FX9
   have RF:=((((((R9.far (X:=X) (o:=0) (v:=.int .i64 2) (Ne.symm hXB)).far (X:=X) (o:=1) (v:=.int .i64 0) (Ne.symm hXB)).far (X:=X) (o:=2) (v:=.int .i64 nn) (Ne.symm hXB)).far (X:=X) (o:=3) (v:=.string wd) (Ne.symm hXB)).far (X:=X) (o:=4) (v:=.slice none 0 0) (Ne.symm hXB)).far (X:=X) (o:=5) (v:=.slice none 0 0) (Ne.symm hXB)).far (X:=X) (o:=6) (v:=.slice none 0 0) (Ne.symm hXB)
   have GF:=grown_far (grown_far (grown_far (grown_far (grown_far (grown_far (grown_far G9 (X:=X) (o:=0) (v:=.int .i64 2) hXw) (X:=X) (o:=1) (v:=.int .i64 0) hXw) (X:=X) (o:=2) (v:=.int .i64 nn) hXw) (X:=X) (o:=3) (v:=.string wd) hXw) (X:=X) (o:=4) (v:=.slice none 0 0) hXw) (X:=X) (o:=5) (v:=.slice none 0 0) hXw) (X:=X) (o:=6) (v:=.slice none 0 0) hXw
   have INF:=HIN.out ((((((((w9.setCell ⟨X,0,none⟩ (.int .i64 2)).setCell ⟨X,1,none⟩ (.int .i64 0)).setCell ⟨X,2,none⟩ (.int .i64 nn)).setCell ⟨X,3,none⟩ (.string wd)).setCell ⟨X,4,none⟩ (.slice none 0 0)).setCell ⟨X,5,none⟩ (.slice none 0 0)).setCell ⟨X,6,none⟩ (.slice none 0 0))) 
   have HRF:=hide RF
   have HGF:=hide GF
   have HINF:=hide INF
   clear RF GF INF hx g G9 FX9 R9 HIN HFIN HEND
   go_wp2
   exact bodyPost_ret (v:=.agg #[.int .i64 2,.int .i64 0,.int .i64 nn,.string wd,.slice none 0 0,.slice none 0 0,.slice none 0 0]) (by simp [results,Tryz.results191,go_sem,z0,z1,z2,z3,z4,z5,z6]) rfl ⟨.inl ⟨tt,_,HE.out,by rw [hev],HINF.out,HRF.out⟩,HGF.out⟩
  ·have HE:Hid (wnd wd st=.error (4,r8.length)):=by show _=_;rw [HFIN.out,hf]
   have G:=grown_trans G8 g (fun _ hk=>.inl hk)
   clear hf
   go_wp2_with fail
   exact ⟨rfl,.inr ⟨_,HE.out,rfl⟩,G⟩
 | none =>
  have HA:=hide ha
  rw [ha] at A2
  simp only [Option.getD_none,Option.isSome_none] at A2
  clear ha
  refine A2.out.mono ?_
  rintro e w3 ⟨rfl,R3,g⟩
  have G3:=grown_trans G2 g (fun _ hk=>.inl hk)
  have FX3:=grown_block g FX2 hXB
  have FY3:=grown_block g FY2 hYB
  have hV3:X+1<w3.heap.size:=by
   rcases Nat.lt_or_ge (X+1) w3.heap.size with e | e
   ·exact e
   ·rw [Array.getElem?_eq_none (by exact e)] at FY3;cases FY3
  clear g G2 FX2 FY2 R2 A2
  obtain ⟨OB,hOBe⟩:∃ OB,OB=w3.heap.size:=⟨_,rfl⟩
  have hOB:B<OB:=by rw [hOBe];exact R3.lt
  have hXO:X+1<OB:=by rw [hOBe];exact hV3
  have hXX:X<OB:=by omega
  have hwO:w.heap.size≤OB:=by omega
  have HL:=hide (listm_any s ⟨r2,st.n⟩ B w3 R3 hs)
  rw [← hOBe] at HL
  have HOBe:=hide hOBe
  clear hOBe hV3
  go_wp2_with fail
  refine HL.out.mono ?_
  rintro e w4 ⟨⟨l,r4,co,N,c,hx,rfl,OW4,R4⟩ | ⟨f,hf,rfl⟩,g⟩
  rotate_left
  ·have HE:Hid (wnd wd st=.error f):=by show _=_;simp only [wnd,Q1.out,Q2.out,wnM,HA.out,hf]
   have G:=grown_trans G3 g (fun _ hk=>.inl hk)
   clear hf
   go_wp2_with fail
   exact ⟨rfl,.inr ⟨_,HE.out,rfl⟩,G⟩
  have QL:=hide hx
  have HLN:=hide (own_mlen OW4)
  obtain ⟨fit,hlen⟩:=lst_fit (Q:=fun m=>m.key.size≤140737488355328∧m.val.size≤140737488355328) (fun _ _ _ hh=>mtc_fit hh) hx
  have HFIT:=hide fit
  have hN6:N≤6:=by rw [HLN.out];exact hlen
  have G4:=grown_trans G3 g (fun _ hk=>.inl hk)
  have FX4:=grown_block g FX3 hXB
  have FY4:=grown_block g FY3 hYB
  clear hx g G3 FX3 FY3 R3 HL fit hlen
  obtain ⟨y0,y1,y2,y3,y4,y5,y6⟩:=seven_cells FY4
  obtain ⟨u0,u1,u2,u3,u4,u5,u6⟩:=thaw7 FY4
  obtain ⟨w5,hw5⟩:∃ v,v=w4.setCell ⟨X+1,4,none⟩ (.slice co N c):=⟨_,rfl⟩
  have R5:Rd 95 w5 B s ⟨r4,st.n⟩:=by rw [hw5];exact R4.far (Ne.symm hYB)
  have G5:w.grownBy w5 (some B):=by rw [hw5];exact grown_far G4 (by omega)
  have FX5:w5.heap[X]?=some (.cells #[.int .i64 0,.int .i64 0,.int .i64 0,.string ⟨#[]⟩,.slice none 0 0,.slice none 0 0,.slice none 0 0] 41 (0,0)):=by rw [hw5,setCell_far (by omega)];exact FX4
  have FY5:w5.heap[X+1]?=some (.cells #[.int .i64 2,.int .i64 0,.int .i64 0,.string wd,.slice co N c,.slice none 0 0,.slice none 0 0] 41 (0,0)):=by rw [hw5];exact (set7 FY4 (.slice co N c)).2.1
  have OW5:w5.ownsRow OB 183 3 (.slice co N c) N (mcells l):=by rw [hw5];exact rown_far OW4 hXO
  have HW5:=hide hw5
  clear hw5 G4 FX4 FY4 R4 OW4
  go_wp2_with fail
  rw [← HW5.out]
  clear y0 y1 y2 y3 y4 y5 y6 u0 u1 u2 u3 u4 u5 u6
  have E6:=hide (expect_any [125] s ⟨r4,st.n⟩ B w5 R5 hs)
  unfold lit at E6
  refine E6.out.mono ?_
  rintro e w6 ⟨⟨r6,hx,rfl,R6⟩ | ⟨f,hf,rfl⟩,g⟩
  rotate_left
  ·have HE:Hid (wnd wd st=.error f):=by show _=_;simp only [wnd,Q1.out,Q2.out,wnM,HA.out,QL.out,hf]
   have G:=grown_trans G5 g (fun _ hk=>.inl hk)
   clear hf
   go_wp2_with fail
   exact ⟨rfl,.inr ⟨_,HE.out,rfl⟩,G⟩
  have Q6:=hide hx
  have G6:=grown_trans G5 g (fun _ hk=>.inl hk)
  have FX6:=grown_block g FX5 hXB
  have FY6:=grown_block g FY5 hYB
  have OW6:=own_grown OW5 g hOB
  clear hx g E6 G5 FX5 FY5 R5
  clear OW5
  have QM:Hid (wnM r2=.ok (l,r6)):=by show _=_;simp only [wnM,HA.out,QL.out,Q6.out]
  go_wp2_with fail
  have E7:=hide (expect_any [91] s ⟨r6,st.n⟩ B w6 R6 hs)
  unfold lit at E7
  refine E7.out.mono ?_
  rintro e w7 ⟨⟨r7,hx,rfl,R7⟩ | ⟨f,hf,rfl⟩,g⟩
  rotate_left
  ·have HE:Hid (wnd wd st=.error f):=by show _=_;simp only [wnd,Q1.out,Q2.out,QM.out,hf]
   have G:=grown_trans G6 g (fun _ hk=>.inl hk)
   clear hf
   go_wp2_with fail
   exact ⟨rfl,.inr ⟨_,HE.out,rfl⟩,G⟩
  have Q7:=hide hx
  have G7:=grown_trans G6 g (fun _ hk=>.inl hk)
  have FX7:=grown_block g FX6 hXB
  have FY7:=grown_block g FY6 hYB
  have OW7:=own_grown OW6 g hOB
  clear hx g E7 G6 FX6 FY6 R6
  clear OW6
  go_wp2_with fail
  refine (number_any 1 100000 s ⟨r7,st.n⟩ B w0 w7 R7 hs HEV.out (HB0.out.grown G7 HB0.out.size (fun j hj=>by cases hj;exact hB0)) hB0).mono ?_
  rintro e w8 ⟨⟨nn,r8,hx,rfl,R8⟩ | ⟨f,hf,rfl⟩,g⟩
  rotate_left
  ·have HE:Hid (wnd wd st=.error f):=by show _=_;simp only [wnd,Q1.out,Q2.out,QM.out,Q7.out,hf]
   have G:=grown_trans G7 g (fun _ hk=>.inl hk)
   clear hf
   go_wp2_with fail
   exact ⟨rfl,.inr ⟨_,HE.out,rfl⟩,G⟩
  have Q8:=hide hx
  have G8:=grown_trans G7 g (fun _ hk=>.inl hk)
  have FX8:=grown_block g FX7 hXB
  have FY8:=grown_block g FY7 hYB
  have OW8:=own_grown OW7 g hOB
  clear hx g G7 FX7 FY7 R7
  clear OW7
  obtain ⟨y0,y1,y2,y3,y4,y5,y6⟩:=seven_cells FY8
  obtain ⟨u0,u1,u2,u3,u4,u5,u6⟩:=thaw7 FY8
  obtain ⟨w9,hw9⟩:∃ v,v=w8.setCell ⟨X+1,2,none⟩ (.int .i64 nn):=⟨_,rfl⟩
  have R9:Rd 95 w9 B s ⟨r8,st.n⟩:=by rw [hw9];exact R8.far (Ne.symm hYB)
  have G9:w.grownBy w9 (some B):=by rw [hw9];exact grown_far G8 (by omega)
  have FX9:w9.heap[X]?=some (.cells #[.int .i64 0,.int .i64 0,.int .i64 0,.string ⟨#[]⟩,.slice none 0 0,.slice none 0 0,.slice none 0 0] 41 (0,0)):=by rw [hw9,setCell_far (by omega)];exact FX8
  have FY9:w9.heap[X+1]?=some (.cells #[.int .i64 2,.int .i64 0,.int .i64 nn,.string wd,.slice co N c,.slice none 0 0,.slice none 0 0] 41 (0,0)):=by rw [hw9];exact (set7 FY8 (.int .i64 nn)).1
  have OW9:w9.ownsRow OB 183 3 (.slice co N c) N (mcells l):=by rw [hw9];exact rown_far OW8 hXO
  have HW9:=hide hw9
  clear hw9 G8 FX8 FY8 R8
  clear OW8
  go_wp2_with fail
  rw [← HW9.out]
  clear y0 y1 y2 y3 y4 y5 y6 u0 u1 u2 u3 u4 u5 u6
  have E10:=hide (expect_any [93] s ⟨r8,st.n⟩ B w9 R9 hs)
  unfold lit at E10
  refine E10.out.mono ?_
  rintro e w10 ⟨⟨r10,hx,rfl,R10⟩ | ⟨f,hf,rfl⟩,g⟩
  rotate_left
  ·have HE:Hid (wnd wd st=.error f):=by show _=_;simp only [wnd,Q1.out,Q2.out,QM.out,Q7.out,Q8.out,hf]
   have G:=grown_trans G9 g (fun _ hk=>.inl hk)
   clear hf
   go_wp2_with fail
   exact ⟨rfl,.inr ⟨_,HE.out,rfl⟩,G⟩
  have Q10:=hide hx
  have G10:=grown_trans G9 g (fun _ hk=>.inl hk)
  have FX10:=grown_block g FX9 hXB
  have FY10:=grown_block g FY9 hYB
  have OW10:=own_grown OW9 g hOB
  clear hx g E10 G9 FX9 FY9 R9
  clear OW9
  go_wp2_with fail
  have E11:=hide (expect_any [41] s ⟨r10,st.n⟩ B w10 R10 hs)
  unfold lit at E11
  refine E11.out.mono ?_
  rintro e w11 ⟨⟨r11,hx,rfl,R11⟩ | ⟨f,hf,rfl⟩,g⟩
  rotate_left
  ·have HE:Hid (wnd wd st=.error f):=by show _=_;simp only [wnd,Q1.out,Q2.out,QM.out,Q7.out,Q8.out,Q10.out,hf]
   have G:=grown_trans G10 g (fun _ hk=>.inl hk)
   clear hf
   go_wp2_with fail
   exact ⟨rfl,.inr ⟨_,HE.out,rfl⟩,G⟩
  have Q11:=hide hx
  have G11:=grown_trans G10 g (fun _ hk=>.inl hk)
  have FX11:=grown_block g FX10 hXB
  have FY11:=grown_block g FY10 hYB
  have OW11:=own_grown OW10 g hOB
  clear hx g E11 G10 FX10 FY10 R10
  clear OW10
  obtain ⟨y0,y1,y2,y3,y4,y5,y6⟩:=seven_cells FY11
  obtain ⟨tt,htt⟩:∃ tt:ET,tt=.node ⟨2,0,nn,wd,l,[]⟩ ⟨co,c,none,0,none,0⟩ []:=⟨_,rfl⟩
  have HEND:=hide (ended_any tt s ⟨r11,st.n⟩ B w11 R11 hn)
  have hev:eval tt=.agg #[.int .i64 2,.int .i64 0,.int .i64 nn,.string wd,.slice co N c,.slice none 0 0,.slice none 0 0]:=by rw [htt];show Value.agg _=_;rw [HLN.out];rfl
  have hex:tt.ex=.mk ⟨2,0,nn,wd,l,[]⟩ []:=by rw [htt];simp [ET.ex,exL]
  have HFIN:Hid (wnd wd st=fin tt.ex ⟨r11,st.n⟩):=by show _=_;rw [hex];simp only [wnd,Q1.out,Q2.out,QM.out,Q7.out,Q8.out,Q10.out,Q11.out]
  have HIN:Hid (∀ v:World,v.ownsRow OB 183 3 (.slice co N c) N (mcells l)→tt.In (cut w.heap.size v)):=by
   intro v ow
   rw [htt]
   simp only [ET.In]
   exact ⟨⟨(own_cut ow hwO).1,.inl rfl,.inl rfl⟩,⟨by rw [← HLN.out];omega,by simp,by simp,by show wd.size≤_;omega,fun m hm=>by have:=HFIT.out m hm;omega,fun b hb=>by (cases hb),Nat.le_refl _,HFIT.out⟩,by simp [InL]⟩
  rw [hev] at HEND
  clear htt hex
  go_wp2_with fail
  refine HEND.out.mono ?_
  rintro e w12 ⟨⟨hx,rfl,R12⟩ | ⟨hf,rfl⟩,g⟩
  ·have HE:Hid (wnd wd st=.ok (tt.ex,⟨r11,st.n+1⟩)):=by show _=_;rw [HFIN.out,hx]
   have G12:=grown_trans G11 g (fun _ hk=>.inl hk)
   have FX12:=grown_block g FX11 hXB
   obtain ⟨z0,z1,z2,z3,z4,z5,z6⟩:=seven_cells FX12
   obtain ⟨u0,u1,u2,u3,u4,u5,u6⟩:=thaw7 FX12
   have RF:=((((((R12.far (X:=X) (o:=0) (v:=.int .i64 2) (Ne.symm hXB)).far (X:=X) (o:=1) (v:=.int .i64 0) (Ne.symm hXB)).far (X:=X) (o:=2) (v:=.int .i64 nn) (Ne.symm hXB)).far (X:=X) (o:=3) (v:=.string wd) (Ne.symm hXB)).far (X:=X) (o:=4) (v:=.slice co N c) (Ne.symm hXB)).far (X:=X) (o:=5) (v:=.slice none 0 0) (Ne.symm hXB)).far (X:=X) (o:=6) (v:=.slice none 0 0) (Ne.symm hXB)
   have GF:=grown_far (grown_far (grown_far (grown_far (grown_far (grown_far (grown_far G12 (X:=X) (o:=0) (v:=.int .i64 2) hXw) (X:=X) (o:=1) (v:=.int .i64 0) hXw) (X:=X) (o:=2) (v:=.int .i64 nn) hXw) (X:=X) (o:=3) (v:=.string wd) hXw) (X:=X) (o:=4) (v:=.slice co N c) hXw) (X:=X) (o:=5) (v:=.slice none 0 0) hXw) (X:=X) (o:=6) (v:=.slice none 0 0) hXw
   have INF:=HIN.out ((((((((w12.setCell ⟨X,0,none⟩ (.int .i64 2)).setCell ⟨X,1,none⟩ (.int .i64 0)).setCell ⟨X,2,none⟩ (.int .i64 nn)).setCell ⟨X,3,none⟩ (.string wd)).setCell ⟨X,4,none⟩ (.slice co N c)).setCell ⟨X,5,none⟩ (.slice none 0 0)).setCell ⟨X,6,none⟩ (.slice none 0 0))) (rown_far (rown_far (rown_far (rown_far (rown_far (rown_far (rown_far (own_grown OW11 g hOB) hXX) hXX) hXX) hXX) hXX) hXX) hXX)
   have HRF:=hide RF
   have HGF:=hide GF
   have HINF:=hide INF
   clear RF GF INF hx g G12 FX12 R12 HIN HFIN HEND
   go_wp2
   exact bodyPost_ret (v:=.agg #[.int .i64 2,.int .i64 0,.int .i64 nn,.string wd,.slice co N c,.slice none 0 0,.slice none 0 0]) (by simp [results,Tryz.results191,go_sem,z0,z1,z2,z3,z4,z5,z6]) rfl ⟨.inl ⟨tt,_,HE.out,by rw [hev],HINF.out,HRF.out⟩,HGF.out⟩
  ·have HE:Hid (wnd wd st=.error (4,r11.length)):=by show _=_;rw [HFIN.out,hf]
   have G:=grown_trans G11 g (fun _ hk=>.inl hk)
   clear hf
   go_wp2_with fail
   exact ⟨rfl,.inr ⟨_,HE.out,rfl⟩,G⟩
end Go.Proofs.YtoldmigappbjcaaGreatDoor
namespace Go.GrainU
open Go.RowKit
def slit (l:List (List UInt8)):List ByteArray:=l.map lit
theorem accAny_none {l:List (List UInt8)} {r:List UInt8} (h:∀ j,(hj:j<l.length)→acc l[j] r=none):accAny l r=none:=by
 induction l with
 | nil=>rfl
 | cons a t ih =>
  have h0:=h 0 (by simp)
  simp only [List.getElem_cons_zero] at h0
  rw [accAny,h0]
  exact ih fun j hj=>by have:=h (j+1) (by simpa using hj);simpa using this
theorem accAny_at {l:List (List UInt8)} {r r1:List UInt8} {k:Nat} (hk:k<l.length) (h:∀ j,(hj:j<k)→acc (l[j]'(by omega)) r=none) (ha:acc l[k] r=some r1):accAny l r=some (l[k],r1):=by
 induction l generalizing k with
 | nil=>simp at hk
 | cons a t ih =>
  match k,hk with
  | 0,_ =>
   simp only [List.getElem_cons_zero] at ha
   rw [accAny,ha]
   rfl
  | k+1,hk =>
   have h0:=h 0 (by omega)
   simp only [List.getElem_cons_zero] at h0
   rw [accAny,h0]
   simp only [List.getElem_cons_succ] at ha ⊢
   exact ih (by simpa using hk) (fun j hj=>by have:=h (j+1) (by omega);simpa using this) ha
theorem slit_at {l:List (List UInt8)} {k:Nat} (hk:k<l.length):(slit l).getD k ⟨#[]⟩=lit l[k]:=by
 simp [slit,List.getD,hk]
end Go.GrainU
namespace Go.Proofs.YtoldmigappbjcaaGreatDoor
open Go.RowKit Go.GrainU
set_option maxHeartbeats 2000000 in
theorem signs_any (sg:List (List UInt8)) (bo:Option Addr) (m c:Nat) (s:ByteArray) (st:St) (B:Nat) (w:World) (h:Rd 95 w B s st) (hs:s.size≤2000) (hb:Seg w bo (wcells (slit sg))) (hm:m=sg.length) (hM:m≤100) (hne:∀ b off,bo=some ⟨b,off,none⟩→b≠B) :
  Calls Tryz.prog 144 #[.slice bo m c,.func (.func 145) #[.pointer (some ⟨B,0,none⟩)] #[]] w fun e w'=>((∃ (k:Nat) (x r:List UInt8),accAny sg st.r=some (x,r)∧k<m∧sg[k]?=some x∧e=.returned (.int .i64 k)∧Rd 95 w' B s ⟨r,st.n⟩)∨(accAny sg st.r=none∧e=.returned (.int .i64 (-1))∧Rd 95 w' B s st))∧w.grownBy w' (some B):=by
 have HM:=hide hm
 have HS:=hide hb
 have HNE:=hide hne
 clear hm hb hne
 go_enter Tryz.func144,Tryz.ntmps144
 go_wp2_with fail
 go_loopw [8] (fun i wr=>∃ k:Nat,k≤m∧i=.int .i64 k∧Hid (∀ j,(hj:j<k)→(hj':j<sg.length)→acc sg[j] st.r=none)∧Rd 95 wr B s st∧w.grownBy wr (some B)) (fun i _=>m-(intOf i).toNat)
 case atStart=>exact ⟨0,Nat.zero_le _,rfl,fun j hj=>by omega,h,World.grownBy.refl _ _⟩
 case round =>
  obtain ⟨k,hk,rfl,HJ,R,gr⟩:=hrel
  by_cases hlt:k<m
  ·have hkl:k<sg.length:=by rw [← HM.out];exact hlt
   obtain ⟨b,off,rfl,hbl,hcell⟩:=seg_word (seg_grown HS.out gr HNE.out) (k:=k) (by simpa [slit] using hkl)
   have c0:=hcell k (by simpa [slit] using hkl)
   rw [slit_at hkl] at c0
   obtain ⟨x,hx⟩:∃ x,x=sg[k]:=⟨_,rfl⟩
   rw [← hx] at c0
   have HX:Hid (x=sg[k]):=hx
   have A:=hide (accept_any x s st B wr R hs)
   clear hx hcell
   cases ha:acc x st.r with
   | some r1 =>
    rw [ha] at A
    simp only [Option.getD_some,Option.isSome_some] at A
    have HA:Hid (accAny sg st.r=some (x,r1)):=by
     show _=_
     rw [HX.out]
     exact accAny_at hkl (fun j hj=>HJ.out j hj (by omega)) (by rw [← HX.out];exact ha)
    have HG:Hid (sg[k]?=some x):=by show _=_;rw [List.getElem?_eq_getElem hkl,HX.out]
    clear ha
    go_wp2_with fail
    refine A.out.mono ?_
    rintro e w1 ⟨rfl,h1,g1⟩
    have G1:=grown_trans gr g1 (fun _ hk=>.inl hk)
    go_wp2_with fail
    go_ret
    exact ⟨.inl ⟨k,x,r1,HA.out,hlt,HG.out,rfl,h1⟩,G1⟩
   | none =>
    rw [ha] at A
    simp only [Option.getD_none,Option.isSome_none] at A
    have HJ':Hid (∀ j,(hj:j<k+1)→(hj':j<sg.length)→acc sg[j] st.r=none):=by
     intro j hj hj'
     rcases (show j<k∨j=k from by omega) with e | e
     ·exact HJ.out j e hj'
     ·subst e;rw [← HX.out];exact ha
    clear ha HJ
    go_wp2_with fail
    refine A.out.mono ?_
    rintro e w1 ⟨rfl,h1,g1⟩
    have G1:=grown_trans gr g1 (fun _ hk=>.inl hk)
    go_wp2_with fail
    go_roundw
    case rel=>exact ⟨k+1,by omega,by go_num,HJ',h1,G1⟩
    case measure=>simp [intOf];omega
  ·have HA:Hid (accAny sg st.r=none):=accAny_none fun j hj=>HJ.out j (by have:=HM.out;omega) hj
   go_wp2_with fail
   go_ret
   exact ⟨.inr ⟨HA.out,rfl,R⟩,gr⟩
abbrev EPost (s:ByteArray) (B:Nat) (w:World) (x:Except Flt (Ex×St)) (e:Ending) (w':World):Prop :=
 ((∃ t q,x=.ok (ET.ex t,q)∧e=.returned (eval t)∧t.In (cut w.heap.size w')∧Rd 95 w' B s q∧q.n≤100)∨∃ f,x=.error f∧e=.panicked [thr s f])∧w.grownBy w' (some B)
abbrev Reads (F:FuncId) (d:Int) (p:St→Except Flt (Ex×St)):Prop :=
 ∀ (s:ByteArray) (st:St) (B:Nat) (w0 w:World),Rd 95 w B s st→s.size≤2000→st.n≤100→ErrV w0→Below w0.heap.size w0 w→w0.heap.size≤B →
  Calls Tryz.prog F #[.pointer (some ⟨B,0,none⟩),.int .i64 d] w (EPost s B w (p st))
end Go.Proofs.YtoldmigappbjcaaGreatDoor
namespace Go.GrainU
open Go.RowKit
def put7 (w:World) (X:Nat) (t:ET):World :=
 ((((((w.setCell ⟨X,0,none⟩ (.int .i64 t.hd.kind)).setCell ⟨X,1,none⟩ (.int .i64 t.hd.n)).setCell ⟨X,2,none⟩ (.int .i64 t.hd.range)).setCell ⟨X,3,none⟩ (.string t.hd.word)).setCell ⟨X,4,none⟩ (.slice t.sp.ma t.hd.ms.length t.sp.mc)).setCell ⟨X,5,none⟩ (.slice t.sp.ba t.hd.bs.length t.sp.bc)).setCell ⟨X,6,none⟩ (.slice t.sp.ka t.kids.length t.sp.kc)
theorem put7_far {w:World} {X k:Nat} {t:ET} (h:k≠X):(put7 w X t).heap[k]?=w.heap[k]?:=by
 unfold put7
 rw [setCell_far h,setCell_far h,setCell_far h,setCell_far h,setCell_far h,setCell_far h,setCell_far h]
theorem put7_blk {w:World} {X:Nat} {t:ET} {x0 x1 x2 x3 x4 x5 x6:Value} {ty:TypeId} (h:w.heap[X]?=some (.cells #[x0,x1,x2,x3,x4,x5,x6] ty (0,0))) :
  (put7 w X t).heap[X]?=some (.cells #[.int .i64 t.hd.kind,.int .i64 t.hd.n,.int .i64 t.hd.range,.string t.hd.word,.slice t.sp.ma t.hd.ms.length t.sp.mc,.slice t.sp.ba t.hd.bs.length t.sp.bc,.slice t.sp.ka t.kids.length t.sp.kc] ty (0,0)):=by
 unfold put7
 simp [World.setCell,Array.getElem?_modify,h]
theorem put7_rd {ty:TypeId} {w:World} {B X:Nat} {s:ByteArray} {st:St} {t:ET} (h:Rd ty w B s st) (hX:B≠X):Rd ty (put7 w X t) B s st :=
 ⟨h.suf,by rw [put7_far hX];exact h.blk⟩
theorem put7_grown {v w:World} {X:Nat} {r:Option Nat} {t:ET} (h:v.grownBy w r) (hX:v.heap.size≤X):v.grownBy (put7 w X t) r:=by
 unfold put7
 exact grown_far (grown_far (grown_far (grown_far (grown_far (grown_far (grown_far h hX) hX) hX) hX) hX) hX) hX
theorem put7_in {w:World} {X b:Nat} {t u:ET} (h:u.In (cut b w)) (hX:X<b):u.In (cut b (put7 w X t)):=by
 unfold put7
 exact ET.In.far (ET.In.far (ET.In.far (ET.In.far (ET.In.far (ET.In.far (ET.In.far h hX) hX) hX) hX) hX) hX) hX
end Go.GrainU
namespace Go.Proofs.YtoldmigappbjcaaGreatDoor
open Go.RowKit Go.GrainU
set_option maxHeartbeats 2000000 in
theorem tclos_of {d:Int} {p:St→Except Flt (Ex×St)} (hf:Reads 148 d p) (s:ByteArray) (st:St) (B Z1 Z2:Nat) (w0 w:World) (h:Rd 95 w B s st) (hs:s.size≤2000) (hn:st.n≤100) (hv:ErrV w0) (hb0:Below w0.heap.size w0 w) (hB0:w0.heap.size≤B) (z1:w.cell? ⟨Z1,0,none⟩=some (.pointer (some ⟨B,0,none⟩))) (z2:w.cell? ⟨Z2,0,none⟩=some (.int .i64 d)) :
  Calls Tryz.prog 147 #[.pointer (some ⟨Z1,0,none⟩),.pointer (some ⟨Z2,0,none⟩)] w (EPost s B w (p st)):=by
 have hB:=h.lt
 have hl1:Z1<w.heap.size:=World.block_lt_of_cell? w _ z1
 have hl2:Z2<w.heap.size:=World.block_lt_of_cell? w _ z2
 obtain ⟨X,hX⟩:∃ X,X=w.heap.size:=⟨_,rfl⟩
 obtain ⟨V,hV⟩:∃ V,V=w.alloc (.cells #[.int .i64 0,.int .i64 0,.int .i64 0,.string ⟨#[]⟩,.slice none 0 0,.slice none 0 0,.slice none 0 0] 41):=⟨_,rfl⟩
 have R0:Rd 95 V B s st:=by rw [hV];exact h.alloc _
 have G0:w.grownBy V (some B):=by rw [hV];exact grown_trans (World.grownBy.refl _ _) (World.grownBy_alloc _ _ none) (fun _ hk=>by cases hk)
 have FX:V.heap[X]?=some (.cells #[.int .i64 0,.int .i64 0,.int .i64 0,.string ⟨#[]⟩,.slice none 0 0,.slice none 0 0,.slice none 0 0] 41 (0,0)):=by rw [hV,hX];exact heap_alloc_new w _
 have hVs:V.heap.size=X+1:=by rw [hV,hX];simp
 have hbV:Below w0.heap.size w0 V:=hb0.grown G0 hb0.size (fun j hj=>by cases hj;exact hB0)
 have HC:=hide (hf s st B w0 V R0 hs hn hv hbV hB0)
 have HF:=hide FX
 have HG:=hide G0
 have HV:=hide hV
 have HX:=hide hX
 have hXB:X≠B:=by omega
 clear hV FX G0 R0 hbV hf hX
 go_enter Tryz.func147,Tryz.ntmps147
 go_wp2_with fail
 rw [← HV.out,← HX.out]
 refine HC.out.mono ?_
 rintro e w1 ⟨⟨t,q,hx,rfl,hin,R1,hq⟩ | ⟨f,hf,rfl⟩,g⟩
 ·have HQ:=hide hx
  have G1:=grown_trans HG.out g (fun _ hk=>.inl hk)
  have FX1:=grown_block g HF.out hXB
  obtain ⟨x0,x1,x2,x3,x4,x5,x6⟩:=seven_cells FX1
  obtain ⟨u0,u1,u2,u3,u4,u5,u6⟩:=thaw7 FX1
  have HRF:=hide (put7_rd (t:=t) R1 (Ne.symm hXB))
  have HGF:=hide (put7_grown (t:=t) G1 (X:=X) (by have:=HX.out;omega))
  have HIN:=hide (ET.In.low (b':=w.heap.size) (by have:=HX.out;omega) t (put7_in (t:=t) hin (X:=X) (by omega)))
  clear hx hin R1 g G1 FX1 HC
  unfold eval
  unfold put7 at HRF HGF HIN
  go_wp2
  exact bodyPost_ret (v:=eval t) (by simp [eval,results,Tryz.results147,go_sem,x0,x1,x2,x3,x4,x5,x6]) rfl ⟨.inl ⟨t,q,HQ.out,rfl,HIN.out,HRF.out,hq⟩,HGF.out⟩
 ·have HE:=hide hf
  have G:=grown_trans HG.out g (fun _ hk=>.inl hk)
  clear hf
  go_wp2_with fail
  exact ⟨rfl,.inr ⟨f,HE.out,rfl⟩,G⟩
set_option maxHeartbeats 2000000 in
theorem sclos_of {d:Int} {p:St→Except Flt (Ex×St)} (hf:Reads 106 d p) (s:ByteArray) (st:St) (B Z1 Z2:Nat) (w0 w:World) (h:Rd 95 w B s st) (hs:s.size≤2000) (hn:st.n≤100) (hv:ErrV w0) (hb0:Below w0.heap.size w0 w) (hB0:w0.heap.size≤B) (z1:w.cell? ⟨Z1,0,none⟩=some (.pointer (some ⟨B,0,none⟩))) (z2:w.cell? ⟨Z2,0,none⟩=some (.int .i64 d)) :
  Calls Tryz.prog 105 #[.pointer (some ⟨Z1,0,none⟩),.pointer (some ⟨Z2,0,none⟩)] w (EPost s B w (p st)):=by
 have hB:=h.lt
 have hl1:Z1<w.heap.size:=World.block_lt_of_cell? w _ z1
 have hl2:Z2<w.heap.size:=World.block_lt_of_cell? w _ z2
 obtain ⟨X,hX⟩:∃ X,X=w.heap.size:=⟨_,rfl⟩
 obtain ⟨V,hV⟩:∃ V,V=w.alloc (.cells #[.int .i64 0,.int .i64 0,.int .i64 0,.string ⟨#[]⟩,.slice none 0 0,.slice none 0 0,.slice none 0 0] 41):=⟨_,rfl⟩
 have R0:Rd 95 V B s st:=by rw [hV];exact h.alloc _
 have G0:w.grownBy V (some B):=by rw [hV];exact grown_trans (World.grownBy.refl _ _) (World.grownBy_alloc _ _ none) (fun _ hk=>by cases hk)
 have FX:V.heap[X]?=some (.cells #[.int .i64 0,.int .i64 0,.int .i64 0,.string ⟨#[]⟩,.slice none 0 0,.slice none 0 0,.slice none 0 0] 41 (0,0)):=by rw [hV,hX];exact heap_alloc_new w _
 have hVs:V.heap.size=X+1:=by rw [hV,hX];simp
 have hbV:Below w0.heap.size w0 V:=hb0.grown G0 hb0.size (fun j hj=>by cases hj;exact hB0)
 have HC:=hide (hf s st B w0 V R0 hs hn hv hbV hB0)
 have HF:=hide FX
 have HG:=hide G0
 have HV:=hide hV
 have HX:=hide hX
 have hXB:X≠B:=by omega
 clear hV FX G0 R0 hbV hf hX
 go_enter Tryz.func105,Tryz.ntmps105
 go_wp2_with fail
 rw [← HV.out,← HX.out]
 refine HC.out.mono ?_
 rintro e w1 ⟨⟨t,q,hx,rfl,hin,R1,hq⟩ | ⟨f,hf,rfl⟩,g⟩
 ·have HQ:=hide hx
  have G1:=grown_trans HG.out g (fun _ hk=>.inl hk)
  have FX1:=grown_block g HF.out hXB
  obtain ⟨x0,x1,x2,x3,x4,x5,x6⟩:=seven_cells FX1
  obtain ⟨u0,u1,u2,u3,u4,u5,u6⟩:=thaw7 FX1
  have HRF:=hide (put7_rd (t:=t) R1 (Ne.symm hXB))
  have HGF:=hide (put7_grown (t:=t) G1 (X:=X) (by have:=HX.out;omega))
  have HIN:=hide (ET.In.low (b':=w.heap.size) (by have:=HX.out;omega) t (put7_in (t:=t) hin (X:=X) (by omega)))
  clear hx hin R1 g G1 FX1 HC
  unfold eval
  unfold put7 at HRF HGF HIN
  go_wp2
  exact bodyPost_ret (v:=eval t) (by simp [eval,results,Tryz.results105,go_sem,x0,x1,x2,x3,x4,x5,x6]) rfl ⟨.inl ⟨t,q,HQ.out,rfl,HIN.out,HRF.out,hq⟩,HGF.out⟩
 ·have HE:=hide hf
  have G:=grown_trans HG.out g (fun _ hk=>.inl hk)
  clear hf
  go_wp2_with fail
  exact ⟨rfl,.inr ⟨f,HE.out,rfl⟩,G⟩
end Go.Proofs.YtoldmigappbjcaaGreatDoor
namespace Go.GrainU
open Go.RowKit
def strip (Y:Nat) (w:World):World:={ w with heap:=w.heap.setIfInBounds Y (.cells #[] 0 (0,0)) }
theorem strip_size (Y:Nat) (w:World):(strip Y w).heap.size=w.heap.size:=by simp [strip]
theorem strip_far {Y k:Nat} {w:World} (h:k≠Y):(strip Y w).heap[k]?=w.heap[k]?:=by
 simp [strip,Ne.symm h]
theorem strip_near {Y:Nat} {w:World} (h:Y<w.heap.size):(strip Y w).heap[Y]?=some (.cells #[] 0 (0,0)):=by
 simp [strip,h]
theorem strip_cell {Y k o:Nat} {w:World} (h:k≠Y):(strip Y w).cell? ⟨k,o,none⟩=w.cell? ⟨k,o,none⟩:=by
 simp [World.cell?,strip_far h]
theorem strip_none {Y k o:Nat} {w:World} {v:Value} (h:(strip Y w).cell? ⟨k,o,none⟩=some v):k≠Y:=by
 intro e
 subst e
 have hl:=World.block_lt_of_cell? _ _ h
 rw [strip_size] at hl
 simp [World.cell?,strip_near hl] at h
theorem seg_of_strip {Y:Nat} {w:World} {ao:Option Addr} {xs:List Value} (h:Seg (strip Y w) ao xs):Seg w ao xs:=by
 rcases h with h | ⟨b,off,rfl,h⟩
 ·exact .inl h
 ·cases xs with
  | nil=>exact .inl rfl
  | cons x r =>
   have hb:b≠Y:=by
    have:=h 0 (by simp)
    simp only [Nat.add_zero,List.getElem?_cons_zero] at this
    exact strip_none this
   exact .inr ⟨b,off,rfl,fun j hj=>by rw [← strip_cell hb];exact h j hj⟩
theorem ET.In.of_strip {Y:Nat} {w:World}:∀ t:ET,t.In (strip Y w)→t.In w:=by
 refine ET.ind ?_
 intro h s kids ih hin
 simp only [ET.In] at hin ⊢
 obtain ⟨⟨a,b,c⟩,d,e⟩:=hin
 exact ⟨⟨seg_of_strip a,seg_of_strip b,seg_of_strip c⟩,d,inL_of fun k hk=>ih k hk (inL_mem e k hk)⟩
theorem seg_cs {b b' Y:Nat} {w:World} {ao:Option Addr} {xs:List Value} (h:Seg (cut b' w) ao xs) (hY:Y<b') (hb:b≤b'):Seg (strip Y (cut b w)) ao xs:=by
 rcases h with h | ⟨k,off,rfl,h⟩
 ·exact .inl h
 ·cases xs with
  | nil=>exact .inl rfl
  | cons x r =>
   have hk:b'≤k:=by
    have:=h 0 (by simp)
    simp only [Nat.add_zero,List.getElem?_cons_zero] at this
    exact cut_none this
   exact .inr ⟨k,off,rfl,fun j hj=>by rw [strip_cell (by omega),cut_cell (by omega),← cut_cell hk];exact h j hj⟩
theorem ET.In.cs {b b' Y:Nat} {w:World} (hY:Y<b') (hb:b≤b'):∀ t:ET,t.In (cut b' w)→t.In (strip Y (cut b w)):=by
 refine ET.ind ?_
 intro h s kids ih hin
 simp only [ET.In] at hin ⊢
 obtain ⟨⟨a,c,e⟩,d,f⟩:=hin
 exact ⟨⟨seg_cs a hY hb,seg_cs c hY hb,seg_cs e hY hb⟩,d,inL_of fun k hk=>ih k hk (inL_mem f k hk)⟩
theorem ET.In.cs_new {b Y:Nat} {w:World} {o:Obj} {t:ET} (h:t.In (cut b w)) (hY:Y=w.heap.size):t.In (strip Y (cut b (w.alloc o))):=by
 refine ET.In.below (w:=cut b w) (w':=strip Y (cut b (w.alloc o))) ⟨rfl,rfl,rfl,by rw [strip_size,cut_size,cut_size];simp,fun k hk=>?_⟩ t h
 rw [cut_size] at hk
 rw [strip_far (by omega)]
 rcases Nat.lt_or_ge k b with e | e
 ·rw [cut_near e hk,cut_near e (by simp;omega)]
 ·rw [cut_far e,cut_far e,Below.heap_alloc _ _ _ hk]
theorem cs_below {b Y:Nat} {w w':World} (ho:w'.os=w.os) (ht:w'.tape=w.tape) (hp:w'.output=w.output) (hsz:w.heap.size≤w'.heap.size) (hk:∀ k,b≤k→k≠Y→k<w.heap.size→w'.heap[k]?=w.heap[k]?) :
  Below (strip Y (cut b w)).heap.size (strip Y (cut b w)) (strip Y (cut b w')):=by
 refine ⟨ho,ht,hp,by rw [strip_size,strip_size,cut_size,cut_size];exact hsz,fun k hl=>?_⟩
 rw [strip_size,cut_size] at hl
 by_cases eY:k=Y
 ·subst eY
  rw [strip_near (by rw [cut_size];omega),strip_near (by rw [cut_size];omega)]
 ·rw [strip_far eY,strip_far eY]
  rcases Nat.lt_or_ge k b with e | e
  ·rw [cut_near e hl,cut_near e (by omega)]
  ·rw [cut_far e,cut_far e]
   exact hk k e eY hl
theorem ET.In.cs_grown {b B Y:Nat} {w w':World} {t:ET} (h:t.In (strip Y (cut b w))) (g:w.grownBy w' (some B)) (hB:B<b):t.In (strip Y (cut b w')) :=
 ET.In.below (cs_below g.os g.tape g.output g.size fun k hb _ hk=>g.block k hk (fun e=>by have:=Option.some.inj e;omega)) t h
theorem ET.In.cs_below {b Y:Nat} {w w':World} {t:ET} (h:t.In (strip Y (cut b w))) (g:Below w.heap.size w w'):t.In (strip Y (cut b w')) :=
 ET.In.below (Go.GrainU.cs_below g.os g.tape g.output g.size fun k _ _ hk=>g.block k hk) t h
theorem set_cs {b Y o:Nat} {w:World} {t:ET} {v:Value} (h:t.In (strip Y (cut b w))):t.In (strip Y (cut b (w.setCell ⟨Y,o,none⟩ v))) :=
 ET.In.below (Go.GrainU.cs_below (w:=w) (w':=w.setCell ⟨Y,o,none⟩ v) rfl rfl rfl (by simp) fun k _ hne _=>setCell_far hne) t h
theorem ET.In.cs_put {b Y:Nat} {w:World} {t u:ET} (h:t.In (strip Y (cut b w))):t.In (strip Y (cut b (put7 w Y u))):=by
 unfold put7
 exact set_cs (set_cs (set_cs (set_cs (set_cs (set_cs (set_cs h))))))
theorem pair_in {b Y:Nat} {w:World} {t u:ET} {x:List UInt8} {ty:TypeId} (ht:t.In (strip Y (cut b w))) (hu:u.In (strip Y (cut b w))) (hb:b≤w.heap.size) (hY:Y<w.heap.size) (hx:x.length≤100) :
  (ET.node ⟨4,0,0,lit x,[],[]⟩ ⟨none,0,none,0,some ⟨w.heap.size,0,none⟩,2⟩ [t,u]).In (strip Y (cut b (w.alloc (.cells #[.int .i64 t.hd.kind,.int .i64 t.hd.n,.int .i64 t.hd.range,.string t.hd.word,.slice t.sp.ma t.hd.ms.length t.sp.mc,.slice t.sp.ba t.hd.bs.length t.sp.bc,.slice t.sp.ka t.kids.length t.sp.kc,.int .i64 u.hd.kind,.int .i64 u.hd.n,.int .i64 u.hd.range,.string u.hd.word,.slice u.sp.ma u.hd.ms.length u.sp.mc,.slice u.sp.ba u.hd.bs.length u.sp.bc,.slice u.sp.ka u.kids.length u.sp.kc] ty)))):=by
 have bel:Below w.heap.size w (w.alloc (.cells #[.int .i64 t.hd.kind,.int .i64 t.hd.n,.int .i64 t.hd.range,.string t.hd.word,.slice t.sp.ma t.hd.ms.length t.sp.mc,.slice t.sp.ba t.hd.bs.length t.sp.bc,.slice t.sp.ka t.kids.length t.sp.kc,.int .i64 u.hd.kind,.int .i64 u.hd.n,.int .i64 u.hd.range,.string u.hd.word,.slice u.sp.ma u.hd.ms.length u.sp.mc,.slice u.sp.ba u.hd.bs.length u.sp.bc,.slice u.sp.ka u.kids.length u.sp.kc] ty)):=(Below.refl _ _).alloc (Nat.le_refl _) _
 simp only [ET.In]
 refine ⟨⟨.inl rfl,.inl rfl,?_⟩,⟨by simp,by simp,by simp,by rw [lit_size];omega,fun m hm=>by (cases hm),fun m hm=>by (cases hm),Nat.le_refl _,fun m hm=>by (cases hm)⟩,?_⟩
 ·have sg:=seg_new w #[.int .i64 t.hd.kind,.int .i64 t.hd.n,.int .i64 t.hd.range,.string t.hd.word,.slice t.sp.ma t.hd.ms.length t.sp.mc,.slice t.sp.ba t.hd.bs.length t.sp.bc,.slice t.sp.ka t.kids.length t.sp.kc,.int .i64 u.hd.kind,.int .i64 u.hd.n,.int .i64 u.hd.range,.string u.hd.word,.slice u.sp.ma u.hd.ms.length u.sp.mc,.slice u.sp.ba u.hd.bs.length u.sp.bc,.slice u.sp.ka u.kids.length u.sp.kc] ty
  have sg2:=rseg_cut (b:=w.heap.size) sg (fun k off e=>by cases e;exact Nat.le_refl _)
  exact seg_cs sg2 hY hb
 ·simp only [InL]
  exact ⟨ht.cs_below bel,hu.cs_below bel,trivial⟩
end Go.GrainU
