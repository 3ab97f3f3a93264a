import Derived.Defers
import Derived.Recover
import Derived.Test.YtoldmigappbjcaaGreatDoorK12
namespace Go.Proofs.YtoldmigappbjcaaGreatDoor
open Go.RowKit Go.GrainU
set_option maxRecDepth 20000 in
set_option maxHeartbeats 2000000 in
theorem catch_idle (p q:Addr) (w:World) :
  CallsD Tryz.prog 36 #[.pointer (some p),.pointer (some q)] .returning w fun e u' w'=>e=.returned (.tuple #[])∧u'=.returning∧w'=w:=by
 refine callsD_of_wpS Tryz.func36 rfl fun c₀ cs hu=>?_
 apply wpS_seq
 apply wpS_region
 simp [wpOpsS,go_sem,recoverD,hu,Tryz.ntmps36,Exit.thenS]
 have e1:(#[Value.pointer (some p),Value.pointer (some q)]++((Array.replicate 7 undef).setIfInBounds 1 Value.nilIface).setIfInBounds 0 Value.nilIface)=#[Value.pointer (some p),Value.pointer (some q),Value.nilIface,Value.nilIface,undef,undef,undef,undef,undef]:=rfl
 rw [e1]
 refine wpS_of_wp ?_
 go_wp2
 cases c₀
 simp_all [bodyPostS,results,Tryz.results36]
set_option maxRecDepth 20000 in
set_option maxHeartbeats 2000000 in
theorem catch_panicking (P Q:Nat) (a b:Int) (older:List PanicEntry) (w:World) (hPQ:P≠Q) (x0 x1 x2 x3 x4 x5 x6 y0 y1:Value) (FP:w.heap[P]?=some (.cells #[x0,x1,x2,x3,x4,x5,x6] 41 (0,0))) (FQ:w.heap[Q]?=some (.cells #[y0,y1] 43 (0,0))) :
  CallsD Tryz.prog 36 #[.pointer (some ⟨P,0,none⟩),.pointer (some ⟨Q,0,none⟩)] (.panicking ({ v:=.iface 121 (.agg #[.int .i64 a,.int .i64 b]),recovered:=false }::older)) w fun e u' w'=>e=.returned (.tuple #[])∧u'=.panicking ({ v:=.iface 121 (.agg #[.int .i64 a,.int .i64 b]),recovered:=true }::older)∧∃ w1,Below w.heap.size w w1∧w'=(((((((((w1.setCell ⟨P,0,none⟩ (.int .i64 0)).setCell ⟨P,1,none⟩ (.int .i64 0)).setCell ⟨P,2,none⟩ (.int .i64 0)).setCell ⟨P,3,none⟩ (.string ⟨#[]⟩)).setCell ⟨P,4,none⟩ (.slice none 0 0)).setCell ⟨P,5,none⟩ (.slice none 0 0)).setCell ⟨P,6,none⟩ (.slice none 0 0)).setCell ⟨Q,0,none⟩ (.int .i64 a)).setCell ⟨Q,1,none⟩ (.int .i64 b)):=by
 refine callsD_of_wpS Tryz.func36 rfl fun c₀ cs hu=>?_
 apply wpS_seq
 apply wpS_region
 simp [wpOpsS,go_sem,recoverD,hu,Tryz.ntmps36,Exit.thenS]
 have e1:(#[Value.pointer (some ⟨P,0,none⟩),Value.pointer (some ⟨Q,0,none⟩)]++((Array.replicate 7 undef).setIfInBounds 1 (Value.iface 121 (Value.agg #[Value.int IntKind.i64 a,Value.int IntKind.i64 b]))).setIfInBounds 0 (Value.iface 121 (Value.agg #[Value.int IntKind.i64 a,Value.int IntKind.i64 b])))=#[Value.pointer (some ⟨P,0,none⟩),Value.pointer (some ⟨Q,0,none⟩),Value.iface 121 (Value.agg #[Value.int IntKind.i64 a,Value.int IntKind.i64 b]),Value.iface 121 (Value.agg #[Value.int IntKind.i64 a,Value.int IntKind.i64 b]),undef,undef,undef,undef,undef]:=rfl
 rw [e1]
 refine wpS_of_wp ?_
 go_wp2_with fail
 refine (caught_any a b w).mono ?_
 rintro e w1 ⟨rfl,b1⟩
 have FP1:=below_block b1 FP
 have FQ1:=below_block b1 FQ
 obtain ⟨p0,p1,p2,p3,p4,p5,p6⟩:=seven_cells FP1
 obtain ⟨u0,u1,u2,u3,u4,u5,u6⟩:=thaw7 FP1
 obtain ⟨q0,q1⟩:=two_cells FQ1
 have t0:w1.frozen? ⟨Q,0,none⟩=false:=by simp [World.frozen?,FQ1]
 have t1:w1.frozen? ⟨Q,1,none⟩=false:=by simp [World.frozen?,FQ1]
 have HB:=hide b1
 clear b1 FP FQ FP1 FQ1
 go_wp2
 cases c₀
 simp_all [bodyPostS,results,Tryz.results36]
 exact ⟨w1,HB.out,rfl⟩
abbrev PrPost (s:ByteArray) (w:World) (e:Ending) (w':World):Prop :=
 ((∃ t:ET,prs s.data.toList=.ok t.ex∧e=.returned (.tuple #[eval t,.agg #[.int .i64 0,.int .i64 0]])∧t.In (cut w.heap.size w'))∨∃ f:Flt,prs s.data.toList=.error f∧e=.returned (.tuple #[.agg #[.int .i64 0,.int .i64 0,.int .i64 0,.string ⟨#[]⟩,.slice none 0 0,.slice none 0 0,.slice none 0 0],.agg #[.int .i64 f.1,.int .i64 (s.size-f.2:Nat)]]))∧Below w.heap.size w w'
theorem door_ret (s:ByteArray) (t:ET) (P:Nat) (w w1:World) (x0 x1 x4 x5 x6 x7 x8 x9:Value) (hx:prs s.data.toList=.ok t.ex) (FP:w1.heap[P]?=some (.cells #[.int .i64 t.hd.kind,.int .i64 t.hd.n,.int .i64 t.hd.range,.string t.hd.word,.slice t.sp.ma t.hd.ms.length t.sp.mc,.slice t.sp.ba t.hd.bs.length t.sp.bc,.slice t.sp.ka t.kids.length t.sp.kc] 41 (0,0))) (FQ:w1.heap[P+1]?=some (.cells #[.int .i64 0,.int .i64 0] 43 (0,0))) (hin:t.In (cut w.heap.size w1)) (hb:Below w.heap.size w w1) :
  Leaves Tryz.prog Tryz.f15 #[x0,x1,.pointer (some ⟨P,0,none⟩),.pointer (some ⟨P+1,0,none⟩),x4,x5,x6,x7,x8,x9] (PrPost s w) [{ target:=.fn (.func 36) #[.pointer (some ⟨P,0,none⟩),.pointer (some ⟨P+1,0,none⟩)],args:=#[] }] .returning w1:=by
 refine leaves_cons (f:=36) (args:=#[.pointer (some ⟨P,0,none⟩),.pointer (some ⟨P+1,0,none⟩)]) (by simp) (by simp [go_sem]) ?_
 refine (catch_idle _ _ _).mono ?_
 rintro e u' w'' ⟨rfl,rfl,rfl⟩
 obtain ⟨p0,p1,p2,p3,p4,p5,p6⟩:=seven_cells FP
 obtain ⟨q0,q1,_,_⟩:=two_cells FQ
 refine ⟨.tuple #[eval t,.agg #[.int .i64 0,.int .i64 0]],?_,.inl ⟨t,hx,rfl,hin⟩,hb⟩
 simp [eval,results,Tryz.results15,go_sem,p0,p1,p2,p3,p4,p5,p6,q0,q1]
theorem door_thrown (s:ByteArray) (f:Flt) (P:Nat) (w w1:World) (x0 x1 x4 x5 x6 x7 x8 x9:Value) (y0 y1 y2 y3 y4 y5 y6 z0 z1:Value) (hx:prs s.data.toList=.error f) (FP:w1.heap[P]?=some (.cells #[y0,y1,y2,y3,y4,y5,y6] 41 (0,0))) (FQ:w1.heap[P+1]?=some (.cells #[z0,z1] 43 (0,0))) (hb:Below w.heap.size w w1) (hP:w.heap.size≤P) :
  Leaves Tryz.prog Tryz.f15 #[x0,x1,.pointer (some ⟨P,0,none⟩),.pointer (some ⟨P+1,0,none⟩),x4,x5,x6,x7,x8,x9] (PrPost s w) [{ target:=.fn (.func 36) #[.pointer (some ⟨P,0,none⟩),.pointer (some ⟨P+1,0,none⟩)],args:=#[] }] (.panicking [thr s f]) w1:=by
 refine leaves_cons (f:=36) (args:=#[.pointer (some ⟨P,0,none⟩),.pointer (some ⟨P+1,0,none⟩)]) (by simp) (by simp [go_sem]) ?_
 refine (catch_panicking P (P+1) f.1 (s.size-f.2:Nat) [] w1 (by omega) _ _ _ _ _ _ _ _ _ FP FQ).mono ?_
 rintro e u' w'' ⟨rfl,rfl,w2,b2,rfl⟩
 have FP2:=below_block b2 FP
 have FQ2:=below_block b2 FQ
 have hb2:Below w.heap.size w w2:=hb.trans (b2.mono hb.size)
 refine ⟨.tuple #[.agg #[.int .i64 0,.int .i64 0,.int .i64 0,.string ⟨#[]⟩,.slice none 0 0,.slice none 0 0,.slice none 0 0],.agg #[.int .i64 f.1,.int .i64 (s.size-f.2:Nat)]],?_,.inr ⟨f,hx,rfl⟩,?_⟩
 ·have hPQ:P≠P+1:=by omega
  simp [results,Tryz.results15,go_sem,World.cell?,World.setCell,Array.getElem?_modify,FP2,FQ2]
 ·exact ((((((((hb2.setCell (by exact hP) _).setCell (by exact hP) _).setCell (by exact hP) _).setCell (by exact hP) _).setCell (by exact hP) _).setCell (by exact hP) _).setCell (by exact hP) _).setCell (by show _≤P+1;omega) _).setCell (by show _≤P+1;omega) _
set_option maxRecDepth 20000 in
set_option maxHeartbeats 4000000 in
theorem parse_any (s:ByteArray) (w:World) (hs63:s.size≤9223372036854775807) (hv:ErrV w):Calls Tryz.prog 15 #[.string s] w (PrPost s w):=by
 obtain ⟨P,hP⟩:∃ P,P=w.heap.size:=⟨_,rfl⟩
 obtain ⟨U,hU⟩:∃ U,U=((w.alloc (.cells #[.int .i64 0,.int .i64 0,.int .i64 0,.string ⟨#[]⟩,.slice none 0 0,.slice none 0 0,.slice none 0 0] 41)).alloc (.cells #[.int .i64 0,.int .i64 0] 43)).alloc (.cells #[.string s,.int .i64 0,.int .i64 0] 95):=⟨_,rfl⟩
 have b0:Below w.heap.size w U:=by rw [hU];exact (((Below.refl _ _).alloc (Nat.le_refl _) _).alloc (by simp) _).alloc (by simp;omega) _
 have FP:U.heap[P]?=some (.cells #[.int .i64 0,.int .i64 0,.int .i64 0,.string ⟨#[]⟩,.slice none 0 0,.slice none 0 0,.slice none 0 0] 41 (0,0)):=by
  rw [hU,hP,Below.heap_alloc _ _ _ (by simp;omega),Below.heap_alloc _ _ _ (by simp)];exact heap_alloc_new w _
 have FQ:U.heap[P+1]?=some (.cells #[.int .i64 0,.int .i64 0] 43 (0,0)):=by
  rw [hU,hP,Below.heap_alloc _ _ _ (by simp)]
  have:=heap_alloc_new (w.alloc (.cells #[.int .i64 0,.int .i64 0,.int .i64 0,.string ⟨#[]⟩,.slice none 0 0,.slice none 0 0,.slice none 0 0] 41)) (.cells #[.int .i64 0,.int .i64 0] 43)
  simpa using this
 have R0:Rd 95 U (P+1+1) s ⟨s.data.toList,0⟩:=by
  refine ⟨List.suffix_refl _,?_⟩
  have hp:pos s s.data.toList=0:=by unfold pos;rw [size_len];omega
  have:=heap_alloc_new ((w.alloc (.cells #[.int .i64 0,.int .i64 0,.int .i64 0,.string ⟨#[]⟩,.slice none 0 0,.slice none 0 0,.slice none 0 0] 41)).alloc (.cells #[.int .i64 0,.int .i64 0] 43)) (.cells #[.string s,.int .i64 0,.int .i64 0] 95)
  rw [hU,hP,hp];simpa using this
 have HWH:=hide (fun (v:World) (hR:Rd 95 v (P+1+1) s ⟨s.data.toList,0⟩) (hb:Below w.heap.size w v)=>rwhole_any s (P+1+1) w v hR hs63 hv hb (by omega))
 have HU:=hide hU
 have HP:=hide hP
 have hmf:∀ (fn:Fn) (first cap:Array Value) (w:World),(Instr.makeFunc fn first cap).run Tryz.prog w=.ok (.func fn first cap) w:=fun _ _ _ _=>rfl
 clear hU hP
 go_enter_defers Tryz.func15,Tryz.ntmps15
 have hPB:P≠P+1+1:=by omega
 have hQB:P+1≠P+1+1:=by omega
 have R1:=R0.drewN 1
 have b1:=below_drewN b0 1
 have FP1:U.drew.heap[P]?=some (.cells #[.int .i64 0,.int .i64 0,.int .i64 0,.string ⟨#[]⟩,.slice none 0 0,.slice none 0 0,.slice none 0 0] 41 (0,0)):=FP
 have FQ1:U.drew.heap[P+1]?=some (.cells #[.int .i64 0,.int .i64 0] 43 (0,0)):=FQ
 obtain ⟨q0,q1,_,_⟩:=two_cells FQ
 obtain ⟨q2,q3,_,_⟩:=two_cells FQ1
 have HGB:Hid (∀ v v':World,Below w.heap.size w v→v.grownBy v' (some (P+1+1))→Below w.heap.size w v'):=fun v v' hb hg=>hb.grown hg hb.size (fun j hj=>by cases hj;have:=HP.out;omega)
 have hPw:w.heap.size≤P:=by have:=HP.out;omega
 go_wp2_with fail
 rw [← HU.out,← HP.out]
 go_region_with
  (first
   | (go_at_call 38;refine (HWH.out _ (by first | exact R0 | exact R1) (by first | exact b0 | exact b1)).mono ?_;rintro e w2 ⟨⟨t,hx,rfl,hin⟩ | ⟨f,hf,rfl⟩,g⟩;rotate_left;(have FP2:=grown_block g (by first | exact FP | exact FP1) hPB;have FQ2:=grown_block g (by first | exact FQ | exact FQ1) hQB;have b2:=HGB.out _ _ (by first | exact b0 | exact b1) g;have HE:=hide hf;clear hf;go_wp2_with fail;exact door_thrown s f P w _ _ _ _ _ _ _ _ _ _ _ _ _ _ _ _ _ _ HE.out FP2 FQ2 b2 hPw);have FP2:=grown_block g (by first | exact FP | exact FP1) hPB;have FQ2:=grown_block g (by first | exact FQ | exact FQ1) hQB;have b2:=HGB.out _ _ (by first | exact b0 | exact b1) g;obtain ⟨v0,v1,v2,v3,v4,v5,v6⟩:=seven_cells FP2;obtain ⟨u0,u1,u2,u3,u4,u5,u6⟩:=thaw7 FP2;obtain ⟨r0,r1,r2,r3⟩:=two_cells FQ2;unfold eval))
 all_goals
  have hUP:P+1+1<U.heap.size:=R0.lt
  have HX:=hide hx
  have hFPF:(((put7 w2 P t).setCell ⟨P+1,0,none⟩ (.int .i64 0)).setCell ⟨P+1,1,none⟩ (.int .i64 0)).heap[P]?=some (.cells #[.int .i64 t.hd.kind,.int .i64 t.hd.n,.int .i64 t.hd.range,.string t.hd.word,.slice t.sp.ma t.hd.ms.length t.sp.mc,.slice t.sp.ba t.hd.bs.length t.sp.bc,.slice t.sp.ka t.kids.length t.sp.kc] 41 (0,0)):=by
   rw [setCell_far (by omega),setCell_far (by omega)];exact put7_blk FP2
  have hFQF:(((put7 w2 P t).setCell ⟨P+1,0,none⟩ (.int .i64 0)).setCell ⟨P+1,1,none⟩ (.int .i64 0)).heap[P+1]?=some (.cells #[.int .i64 0,.int .i64 0] 43 (0,0)):=by
   have h0:(put7 w2 P t).heap[P+1]?=some (.cells #[.int .i64 0,.int .i64 0] 43 (0,0)):=(put7_far (by omega)).trans FQ2
   simp [World.setCell,Array.getElem?_modify,h0]
  have hIN:t.In (cut w.heap.size (((put7 w2 P t).setCell ⟨P+1,0,none⟩ (.int .i64 0)).setCell ⟨P+1,1,none⟩ (.int .i64 0))):=by
   have h0:t.In (cut U.heap.size w2):=hin
   exact ET.In.low (by omega) t (ET.In.far (ET.In.far (put7_in (t:=t) h0 (X:=P) (by omega)) (by omega)) (by omega))
  have hBF:Below w.heap.size w (((put7 w2 P t).setCell ⟨P+1,0,none⟩ (.int .i64 0)).setCell ⟨P+1,1,none⟩ (.int .i64 0)):=by
   unfold put7
   exact ((((((((b2.setCell (by exact hPw) _).setCell (by exact hPw) _).setCell (by exact hPw) _).setCell (by exact hPw) _).setCell (by exact hPw) _).setCell (by exact hPw) _).setCell (by exact hPw) _).setCell (by show _≤P+1;omega) _).setCell (by show _≤P+1;omega) _
  have H1:=hide hFPF
  have H2:=hide hFQF
  have H3:=hide hIN
  have H4:=hide hBF
  clear hFPF hFQF hIN hBF hx
  go_wp2_with fail
  exact door_ret s t P w _ _ _ _ _ _ _ _ _ HX.out H1.out H2.out H3.out H4.out
end Go.Proofs.YtoldmigappbjcaaGreatDoor
