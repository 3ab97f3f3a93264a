/-
  For every input, TopTotal returns true: all together as each by itself: the total of what series come to is what each comes to, one and another. The listed variables of the library (internal/strconv.uint64pow10, math/bits.deBruijn32tab, math/bits.deBruijn64tab, strconv.ErrRange, strconv.ErrSyntax) start as the program's text lays them: the card ties them. No other condition
-/
import Derived.ChangeMaps5
import Derived.LaidHandle
import Derived.LaidMore
import Derived.Lib.LaidTab
import Derived.MakeChecks
import Derived.SevenTiedAt
import Derived.Stop.Joined
import Derived.Stop.LaidErr
import Derived.Test.YtoldmigappbjcaaGreatDoorCards
import Derived.Test.YtoldmigappbjcaaGreatDoorK14
import Derived.Test.YtoldmigappbjcaaGreatDoorTie
import Derived.Test.YtoldmigappbjcaaGreatDoorTopTotal01
import Derived.Test.YtoldmigappbjcaaGreatDoorTopTotal02
import Derived.Test.YtoldmigappbjcaaGreatDoorTopTotal03
import Derived.Test.YtoldmigappbjcaaGreatDoorTopTotal04
namespace Go.Proofs.YtoldmigappbjcaaGreatDoor
open Go.ChangeShapes Go.WideShapes Go.ChangeAt Go.RowKit Go.GrainU
theorem laid_tab {W:World} (h:laidMetH Tryz.prog Rows.topLateRow.laid W):Tab W∧ErrV W:=by
 rw [MakeChecks.laidMetH_plain _ _ _ (by kernel_rfl)] at h
 refine ⟨Lib.tabIs_of_head Tryz.gTab Tryz.gTabType Tryz.underlying275 Tryz.underlying256 (by kernel_rfl) (by kernel_rfl) h.tail.tail,?_⟩
 obtain ⟨a,s,hv,_⟩:=laid_sentinel h.tail.tail.tail Tryz.gErr Tryz.gErrType Tryz.underlying224 Tryz.rowErr Tryz.underlying305 Tryz.underlying307 rfl rfl Tryz.underlying9 (by kernel_rfl) (by kernel_rfl)
 exact ⟨_,_,hv⟩
theorem laid_door (os:Os) (args:Array Value):laidMetH Tryz.prog Rows.topLateRow.laid ((World.doorLaid Tryz.prog 400 os).forCall (fun _ _=>0) ⟨#[],args,[]⟩).memory :=
 laidMetH_of_parts3 (fuel:=8) (laidMet_of_run' 8 (by kernel_rfl) (by kernel_rfl)) (by kernel_rfl) (by kernel_rfl)
open Go.ChangeShapes Go.WideShapes Go.ChangeAt Go.RowKit Go.GrainU
set_option maxRecDepth 100000 in
theorem topTotal_lifted (os:Os) (started:os.Started) (H:Type) (enc:TypeId×Value→H) :
  ReturnsInHanded {} Tryz.checked os 10 .any (fun w args=>(Rows.topTotalSpec.pre enc Tryz.prog Tryz.f10 [] false w args∧laidMetH Tryz.prog Rows.topTotalRow.laid w)∧sizedMet enc Tryz.prog Tryz.f10 (OpenSpec.ofChange Rows.topTotalSpec) false w args)
   (Rows.topTotalSpec.post enc Tryz.prog Tryz.f10 false true false false):=by
 refine returnsInHanded_of_change_and (C:=Tryz.checked) (X:=fun w _=>laidMetH Tryz.prog Rows.topTotalRow.laid w) (fun _ _ _ hh h=>h.of_heap hh) Tryz.own started (by kernel_rfl) Tryz.func10
  (ChangeSpec.witness_shaped (enc:=enc) (C:=Tryz.checked) (os:=os) (X:=fun w _=>laidMetH Tryz.prog Rows.topTotalRow.laid w) false (World.doorLaid Tryz.prog 400 os) #[.slice none 0 0,.int .i64 0] 8 rfl (World.shaped_of_RefB (by kernel_rfl) (by kernel_rfl)) (by kernel_rfl) (by kernel_rfl) (by kernel_rfl) (laid_door os _)) ?_
 intro W base args ds gs before hval0 hW _ hsz0 hL _
 have hval:∀ (j:Nat) t v,Tryz.f10.params[j]?=some t→args[j]?=some v→Value.okWide Tryz.prog W .any base t v:=hval0
 have hsz:(DataW.weightsEach Tryz.prog (Tryz.f10.params.toList++Rows.topTotalSpec.plain.varTypes Tryz.prog) (ds++gs)).all (·≤reachBytes)=true:=hsz0
 have hW':=hW
 obtain ⟨p,q,hA0,hV,rfl,hfz,hnd⟩:=hW
 have hA:DataW.TrodAll enc Tryz.prog W 0 (fun _=>true) true Tryz.f10.params.toList args.toList ds p:=hA0
 rw [Tryz.params10] at hA hval hsz
 obtain ⟨v0,v1,d0,d1,p0,p1,rfl,rfl,rfl,h0,h1⟩:=trodAll_two hA
 obtain ⟨rfl,rfl⟩:=trodVars_none hV
 have lt0:∀ x∈p0,x.block<W.heap.size:=by obtain ⟨m,hm⟩:=h0;exact DataW.trod_lt m _ _ _ hm
 obtain ⟨a0,len0,cap0,rfl⟩:=okWide_slice Tryz.underlying55 (hval 0 55 v0 rfl rfl)
 have k0:=h0
 obtain ⟨f0,hf0⟩:=h0
 obtain ⟨l0,ao0,c0,e0,sg0,lc0,lb0,nl0,cm0⟩:=open_nums hf0 (fun k hk=>of_decide_eq_true (List.all_eq_true.1 hsz k (DataW.weights_mem_each (j:=0) rfl rfl k hk)))
 simp only [Value.cells,List.cons.injEq,Value.slice.injEq,and_true] at e0
 obtain ⟨rfl,rfl,rfl⟩:=e0
 obtain ⟨z1,rfl,rfl,rfl,w1⟩:=open_int Tryz.underlying3 (hval 1 3 v1 rfl rfl) h1
 obtain ⟨hT,hE⟩:=laid_tab hL
 clear hA0 hval0 hsz0 hsz
 refine (ttot_any l0 z1 a0 l0.length cap0 W sg0 rfl ⟨lc0,cm0⟩ nl0 hT hE (by have hr:reachBytes≤140737488355328:=(by decide);omega)).mono fun e W' ⟨he,bel⟩=>?_
 subst he
 exact ⟨_,rfl,_,_,_,[],_,[],hW',trodAll_mk1 (shut_bool Tryz.underlying4 _),(trodAll_cons_mk (Below.trod Tryz.laidOut (by kernel_rfl) (of_decide_eq_true (by kernel_rfl)) k0 bel lt0) (trodAll_cons_mk (shut_int Tryz.underlying3 w1) trodAll_mk0)),rfl,bel.frame _,fun h=>by cases h⟩
theorem topTotal_said:Rows.TopTotalSaid :=
 OpenClaim.holds_of_wide 10 Tryz.f10 rfl rfl rfl rfl rfl rfl rfl ⟨rfl,rfl,rfl,rfl,rfl⟩ rfl rfl rfl rfl rfl (by kernel_rfl) Tryz.func10 (by kernel_rfl)
  (of_decide_eq_true (by kernel_rfl)) (by unfold Func.isWrapper;first | (rw [if_pos (by decide +kernel)];kernel_rfl) | (rw [if_neg (by decide +kernel)];exact ⟨rfl,rfl⟩))
  (fun os started H enc _=>topTotal_lifted os started H enc)
theorem topTotal_card:Rows.TopTotalCardSaid :=
 Claim7.holds_tied_plain_at .later [] [.data, .data, .data, .sentinel, .sentinel] true (true, "594a611b119b19b80c041663e70585f50a9e731ffbf37100dc59137145e933b2") true
  topTotal_said (fun _ h=>by cases h) (by kernel_rfl) (fun _ h=>by cases h) topTotal_row_tie rfl ⟨rfl,rfl⟩ (by kernel_rfl) rfl
  (fun f fn hf hfn=>by
   obtain rfl : f = 10 := Option.some.inj ((show Tryz.prog.funcNamed "grainstore/graintop.TopTotal" = some 10 by kernel_rfl).symm.trans hf) |>.symm
   obtain rfl:fn=Tryz.f10:=(Option.some.inj (Tryz.func10.symm.trans hfn)).symm
   exact ⟨by kernel_rfl,fun j t ht=>by
    rw [Tryz.params10] at ht
    have h3:t=55∨t=3:=by
     rcases j with _ | _ | j
     ·simp at ht;subst ht;simp
     ·simp at ht;subst ht;simp
     ·simp at ht
    rcases h3 with rfl | rfl
    ·exact (show Tryz.prog.wantsStandIn 55=false by kernel_rfl)
    ·exact (show Tryz.prog.wantsStandIn 3=false by kernel_rfl)⟩)
  (by kernel_rfl)
end Go.Proofs.YtoldmigappbjcaaGreatDoor
