import Derived.Test.YtoldmigappbjcaaGreatDoorK02
import Derived.Test.YtoldmigappbjcaaGreatDoorK05
import Derived.Test.YtoldmigappbjcaaGreatDoorK06
import Derived.Test.YtoldmigappbjcaaGreatDoorK17
import Derived.Test.YtoldmigappbjcaaGreatDoorK25
import Derived.Test.YtoldmigappbjcaaGreatDoorK26
namespace Go.GrainU
open Go.RowKit
mutual
/-- what an expression comes tq;nothing,where a value is too great -/
def ev (l:List Ln) (time:Int):Ex→Option Mn
 | .mk h kids =>
  if h.kind=1 then some ⟨true,[([],h.n)]⟩
  else if h.kind=2 then some ⟨false,winC l h time⟩
  else
   match evL l time kids with
   | none=>none
   | some ms=>if h.kind=3 then (allA h.word h.bs [] (ms.getD 0 ⟨false,[]⟩).cs).map fun c=>⟨false,c⟩ else binM (ms.getD 0 ⟨false,[]⟩) (ms.getD 1 ⟨false,[]⟩) h.word
def evL (l:List Ln) (time:Int):List Ex→Option (List Mn)
 | []=>some []
 | k::r =>
  match ev l time k with
  | none=>none
  | some m =>
   match evL l time r with
   | none=>none
   | some ms=>some (m::ms)
end
open Go.RowKit
theorem evg_ev (l:List Ln) (time:Int):∀ x:Ex,evG (fun h=>.ok (winC l h time)) x=exc (ev l time x):=by
 refine Ex.ind ?_
 intro h kids ih
 have hL:∀ ks:List Ex,(∀ k∈ks,evG (fun h=>.ok (winC l h time)) k=exc (ev l time k))→evGL (fun h=>.ok (winC l h time)) ks=(match evL l time ks with | none=>.error 3 | some m=>.ok m):=by
  intro ks
  induction ks with
  | nil=>intro _;rfl
  | cons a r ihr =>
   intro hk
   rw [evGL,evL,hk a (by simp),ihr (fun k hk'=>hk k (by simp [hk']))]
   cases ev l time a with
   | none=>rfl
   | some m =>
    cases evL l time r with
    | none=>rfl
    | some ms=>rfl
 rw [evG,ev,hL kids ih]
 by_cases e1:h.kind=1
 ·rw [if_pos e1,if_pos e1];rfl
 rw [if_neg e1,if_neg e1]
 by_cases e2:h.kind=2
 ·rw [if_pos e2,if_pos e2];rfl
 rw [if_neg e2,if_neg e2]
 cases evL l time kids with
 | none=>rfl
 | some ms =>
  simp only
  by_cases e3:h.kind=3
  ·rw [if_pos e3,if_pos e3]
   cases allA h.word h.bs [] (ms.getD 0 ⟨false,[]⟩).cs <;> rfl
  ·rw [if_neg e3,if_neg e3]
   cases binM (ms.getD 0 ⟨false,[]⟩) (ms.getD 1 ⟨false,[]⟩) h.word <;> rfl
end Go.GrainU
