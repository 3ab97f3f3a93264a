import Derived.Deep.CutRange
import Derived.Deep.RegionLaw
import Derived.Laws.NewBlocks
import Derived.Lib.AppendZerosOnto
import Derived.Shelf.Spec.SlicesInsert
import Derived.Test.YtoldmigappbjcaaGreatDoorK26
import Derived.Test.YtoldmigappbjcaaGreatDoorK27
namespace Go.GrainU
open Go.RowKit Go.Proofs
theorem run_copy2 {P:Program} (w:World) (dT sT ty elem:TypeId) (b o dLen dCap:Nat) (a:Addr) (sLen sCap:Nat) (cs:List Value)
  (hu:P.underlying dT=some (.slice elem)) (hs:(P.info? elem).map (·.size)=some 2) (hn:cs.length=Nat.min sLen dLen*2)
  (hsrc:∀ j v,cs[j]?=some v→w.cell? (a.add j)=some v) (hc:∀ j,j<cs.length→(w.cell? ⟨b,o+j,none⟩).isSome=true) (hf:∀ j,j<cs.length→w.frozen? ⟨b,o+j,none⟩=false) (h1:∀ v∈cs,v.oneCell'=true) :
  (Builtin.copy_ #[dT,sT] ty #[.slice (some ⟨b,o,none⟩) dLen dCap,.slice (some a) sLen sCap]).run P w=.ok (goInt (Nat.min sLen dLen)) (w.setCells b o cs):=by
 have hl:=run_loadCells_list (P:=P) w a cs hsrc
 have hst:=run_storeCells_cells (P:=P) b o cs 0 w (by simpa using hc) (by simpa using hf) h1
 cases hq:P.info? elem with
 | none=>simp [hq] at hs
 | some i =>
  have hi:i.size=2:=by simpa [hq] using hs
  simp [Builtin.copy_,run_underlying hu,Builtin.lenOf,Builtin.firstCells,sizeOf,typeInfo,hq,hi,← hn,hl,hst]
theorem setCells_block (b:Nat):∀ (vs:List Value) (o:Nat) (w:World) (cur:Array Value) (e:TypeId) (fr:Nat×Nat),w.heap[b]?=some (.cells cur e fr)→∃ cur',(w.setCells b o vs).heap[b]?=some (.cells cur' e fr)∧cur'.size=cur.size
 | [],_,_,cur,_,_,h=>⟨cur,h,rfl⟩
 | v::r,o,w,cur,e,fr,h=>by
  have h1:∃ c1,(w.setCell ⟨b,o,none⟩ v).heap[b]?=some (.cells c1 e fr)∧c1.size=cur.size:=by
   simp [World.setCell,Array.getElem?_modify,h]
  obtain ⟨c1,h2,h3⟩:=h1
  obtain ⟨c2,h4,h5⟩:=setCells_block b r (o+1) _ c1 e fr h2
  exact ⟨c2,h4,h5.trans h3⟩
theorem setCells_grown (b:Nat):∀ (vs:List Value) (o:Nat) (w:World),w.grownBy (w.setCells b o vs) (some b)
 | [],_,_=>⟨rfl,rfl,rfl,Nat.le_refl _,fun _ _ _=>rfl⟩
 | v::r,o,w=>by
  have h1:w.grownBy (w.setCell ⟨b,o,none⟩ v) (some b):=⟨rfl,rfl,rfl,by simp [World.setCell],fun k _ hne=>setCell_far (fun e=>hne (by rw [e]))⟩
  exact grown_trans h1 (setCells_grown b r (o+1) _) (fun k hk=>.inl hk)
theorem drew_grown (w:World) (r:Option Nat):w.grownBy w.drew r:=⟨rfl,rfl,rfl,Nat.le_refl _,fun _ _ _=>rfl⟩
theorem own_of_cells {w:World} {base e size g n cap:Nat} {cur:Array Value} {xs:List Value} (h:w.heap[g]?=some (.cells cur e (0,0))) (hb:base≤g) (hnc:n≤cap) (hcm:cap≤maxLen) (hsz:cur.size=cap*size) (hl:xs.length=n*size)
  (hc:∀ j,j<xs.length→w.cell? ⟨g,j,none⟩=xs[j]?):w.ownsRow base e size (.slice (some ⟨g,0,none⟩) n cap) n xs:=by
 refine ⟨hl,.inr ⟨g,cap,cur,rfl,hb,h,hnc,hcm,hsz,?_⟩⟩
 apply List.ext_getElem?
 intro j
 by_cases hj:j<xs.length
 ·rw [← hc j hj,List.getElem?_take,if_pos (by omega)]
  simp [World.cell?,h]
 ·have hle:n*size≤cap*size:=Nat.mul_le_mul_right _ hnc
  rw [List.getElem?_eq_none (by rw [List.length_take];omega),List.getElem?_eq_none (by omega)]
theorem ins_cells {w:World} {g N p:Nat} {xs vs:List Value} (hl:xs.length=N*2) (hv:vs.length=2) (hp:p≤N) (hc:∀ j,j<xs.length→w.cell? ⟨g,j,none⟩=xs[j]?) (hs:∀ j,j<(N+1)*2→(w.cell? ⟨g,j,none⟩).isSome=true) :
  ∀ j,j<(N+1)*2→((w.setCells g ((p+1)*2) (xs.drop (p*2))).setCells g (p*2) vs).cell? ⟨g,j,none⟩=(xs.take (p*2)++(vs++xs.drop (p*2)))[j]?:=by
 intro j hj
 have hdl:(xs.drop (p*2)).length=N*2-p*2:=by rw [List.length_drop,hl]
 have htl:(xs.take (p*2)).length=p*2:=by rw [List.length_take,hl];omega
 rcases Nat.lt_or_ge j (p*2) with h | h
 ·rw [World.cell?_setCells_out _ _ _ _ _ (fun _ _=>.inl h),World.cell?_setCells_out _ _ _ _ _ (fun _ _=>.inl (by show j<_;omega)),hc j (by omega),List.getElem?_append_left (by omega),List.getElem?_take,if_pos h]
 ·rcases Nat.lt_or_ge j (p*2+2) with h' | h'
  ·have:=World.cell?_setCells_in g vs (p*2) (w.setCells g ((p+1)*2) (xs.drop (p*2))) (fun i hi=>isSome_setCells _ _ _ _ (fun t ht=>hs _ (by omega)) _ (hs _ (by omega))) (j-p*2) (by omega)
   rw [show p*2+(j-p*2)=j by omega] at this
   rw [this,List.getElem?_append_right (by omega),htl,List.getElem?_append_left (by omega),List.getElem?_eq_getElem]
  ·rw [World.cell?_setCells_out _ _ _ _ _ (fun _ _=>.inr (by show _≤j;omega))]
   have:=World.cell?_setCells_in g (xs.drop (p*2)) ((p+1)*2) w (fun i hi=>hs _ (by omega)) (j-(p+1)*2) (by omega)
   rw [show (p+1)*2+(j-(p+1)*2)=j by omega] at this
   rw [this,List.getElem?_append_right (by omega),htl,List.getElem?_append_right (by omega),hv,← List.getElem?_eq_getElem]
   congr 1
   omega
theorem ccells_one (l:List CT):∀ u∈ccells l,u.oneCell'=true:=by
 induction l with
 | nil=>intro u hu;simp [ccells] at hu
 | cons s r ih =>
  intro u hu
  simp only [ccells,List.mem_cons] at hu
  rcases hu with e | e | e
  ·subst e;rfl
  ·subst e;rfl
  ·exact ih u e
theorem ccells_take (l:List CT):∀ m,ccells (l.take m)=(ccells l).take (m*2):=by
 induction l with
 | nil=>intro m;simp [ccells]
 | cons s r ih =>
  intro m
  match m with
  | 0=>simp [ccells]
  | m+1=>rw [show (m+1)*2=m*2+1+1 from by omega];simp [ccells,ih]
theorem ccells_drop (l:List CT):∀ m,ccells (l.drop m)=(ccells l).drop (m*2):=by
 induction l with
 | nil=>intro m;simp [ccells]
 | cons s r ih =>
  intro m
  match m with
  | 0=>simp
  | m+1=>rw [show (m+1)*2=m*2+1+1 from by omega];simp [ccells,ih]
end Go.GrainU
namespace Go.Proofs.YtoldmigappbjcaaGreatDoor
open Go.RowKit Go.GrainU Go.Lib
def InsPost (w:World) (base:Nat) (v:Value) (N p:Nat) (xs vs:List Value) (e:Ending) (w':World):Prop :=
 ∃ g d,e=.returned (.slice (some ⟨g,0,none⟩) (N+1) d)∧w'.ownsRow base 79 2 (.slice (some ⟨g,0,none⟩) (N+1) d) (N+1) (xs.take (p*2)++(vs++xs.drop (p*2)))∧w.grownBy w' v.ownBlock∧(v.ownBlock=some g∨w.heap.size≤g)
set_option maxRecDepth 100000 in
set_option maxHeartbeats 4000000 in
theorem ins_end (xs:List Value) (base N d vb:Nat) (co:Option Addr) (x y:Value) (w:World) (own:w.ownsRow base 79 2 (.slice co N d) N xs) (hN:N≤8) (hbase:base≤w.heap.size) (F:w.heap[vb]?=some (.cells #[x,y] 79 (0,0))) (hx:x.oneCell'=true) (hy:y.oneCell'=true) :
  Calls Tryz.prog 154 #[.slice co N d,.int .i64 N,.slice (some ⟨vb,0,none⟩) 1 1] w (InsPost w base (.slice co N d) N N xs [x,y]):=by
 obtain ⟨i0,hi,hz0,hz1,hz2⟩:=info_parts Tryz.infoCell
 have hl:xs.length=N*2:=own.1
 have HT:Hid (xs.take (N*2)++([x,y]++xs.drop (N*2))=xs++[x,y]):=by
  show _=_
  rw [List.take_of_length_le (by omega),List.drop_eq_nil_of_le (by omega)];simp
 have hnw:∀ j u,[x,y][j]?=some u→w.cell? ((⟨vb,0,none⟩:Addr).add j)=some u:=by
  obtain ⟨c0,c1,_,_⟩:=two_cells F
  intro j u hu
  rw [show (⟨vb,0,none⟩:Addr).add j=⟨vb,0+j,none⟩ from by unfold Addr.add;split <;> simp_all]
  match j,hu with
  | 0,hu=>simpa using c0.trans (by simpa using hu)
  | 1,hu=>simpa using c1.trans (by simpa using hu)
 have h1:∀ u∈[x,y],u.oneCell'=true:=by
  intro u hu
  simp at hu
  rcases hu with e | e
  ·rw [e];exact hx
  ·rw [e];exact hy
 have HNW:=hide hnw
 have H1:=hide h1
 clear hnw h1 hx hy hl
 have hco:∃ a,co=a:=⟨_,rfl⟩
 cases co with
 | none =>
  have hN0:N=0:=by
   rcases own.2 with ⟨_,h⟩ | ⟨g,c,cur,h,_⟩
   ·exact h
   ·cases h
  subst hN0
  have hd0:d=0:=by
   rcases own.2 with ⟨h,_⟩ | ⟨g,c,cur,h,_⟩
   ·simpa using h
   ·cases h
  subst hd0
  go_enter Tryz.func154,Tryz.ntmps154
  go_wp2_with (at_builtin;refine wpList_append_lies _ rfl _ _ 46 rfl base 79 i0 (.agg #[.slice none 0 0,.int .i64 0]) 2 32 Tryz.underlying46 hi hz0 hz1 hz2 rfl (by decide) _ _ _ rfl own ⟨vb,0,none⟩ 1 1 [x,y] rfl rfl HNW.out H1.out (by decide) (by unfold maxLen;omega) (by omega) hbase w.heap.size rfl ?_)
  intro g cap w' ownZ grZ hatZ hltZ
  go_wp2
  go_ret
  exact ⟨g,cap,rfl,by rw [HT.out];exact ownZ,grZ,by rcases hatZ with h | h;exact .inl h;right;omega⟩
 | some ad =>
  have had:∃ g,ad=⟨g,0,none⟩:=by
   rcases own.2 with ⟨h,_⟩ | ⟨g,c,cur,h,_⟩
   ·cases h
   ·injection h with h1 h2 h3
    injection h1 with h1
    exact ⟨g,h1⟩
  obtain ⟨g0,rfl⟩:=had
  have hcap:=(own_cap own).1
  go_enter Tryz.func154,Tryz.ntmps154
  go_wp2_with (at_builtin;refine wpList_append_lies _ rfl _ _ 46 rfl base 79 i0 (.agg #[.slice none 0 0,.int .i64 0]) 2 32 Tryz.underlying46 hi hz0 hz1 hz2 rfl (by decide) _ _ _ rfl own ⟨vb,0,none⟩ 1 1 [x,y] rfl rfl HNW.out H1.out (by decide) (by unfold maxLen;omega) (by omega) hbase w.heap.size rfl ?_)
  all_goals
   intro g cap w' ownZ grZ hatZ hltZ
   go_wp2
   go_ret
   exact ⟨g,cap,rfl,by rw [HT.out];exact ownZ,grZ,by rcases hatZ with h | h;exact .inl h;right;omega⟩
set_option maxRecDepth 100000 in
set_option maxHeartbeats 4000000 in
theorem ins_room (xs:List Value) (base N d p vb g:Nat) (x y:Value) (w:World) (own:w.ownsRow base 79 2 (.slice (some ⟨g,0,none⟩) N d) N xs) (hp:p<N) (hN:N≤8) (hd:N+1≤d) (F:w.heap[vb]?=some (.cells #[x,y] 79 (0,0))) (hne:vb≠g) (hx:x.oneCell'=true) (hy:y.oneCell'=true) (h1c:∀ u∈xs,u.oneCell'=true) :
  Calls Tryz.prog 154 #[.slice (some ⟨g,0,none⟩) N d,.int .i64 p,.slice (some ⟨vb,0,none⟩) 1 1] w (InsPost w base (.slice (some ⟨g,0,none⟩) N d) N p xs [x,y]):=by
 obtain ⟨i0,hi,hz0,hz1,hz2⟩:=info_parts Tryz.infoCell
 have hl:xs.length=N*2:=own.1
 obtain ⟨cur,hcur⟩:∃ cur,w.heap[g]?=some (.cells cur 79 (0,0))∧cur.size=d*2∧base≤g∧d≤maxLen:=by
  rcases own.2 with ⟨h,_⟩ | ⟨g',c,cur,h,hb,hh,h2,h3,h4,_⟩
  ·cases h
  ·injection h with h1 _ h5
   injection h1 with h1
   injection h1 with h1 _ _
   subst h1
   subst h5
   exact ⟨cur,hh,h4,hb,h3⟩
 obtain ⟨hG,hGs,hGb,hGm⟩:=hcur
 have hcs:∀ j,j<xs.length→w.cell? ⟨g,j,none⟩=xs[j]?:=fun j hj=>own.cellAt j (by omega)
 have hsp:∀ j,j<(N+1)*2→(w.cell? ⟨g,j,none⟩).isSome=true:=fun j hj=>by
  simp [World.cell?,hG]
  omega
 have hfz:∀ j,w.frozen? ⟨g,j,none⟩=false:=fun j=>by simp [World.frozen?,hG]
 obtain ⟨q0,q1,q2,q3⟩:=two_cells F
 have hnw:∀ j v,[x,y][j]?=some v→w.cell? ((⟨vb,0,none⟩:Addr).add j)=some v:=by
  intro j u hu
  rw [show (⟨vb,0,none⟩:Addr).add j=⟨vb,0+j,none⟩ from by unfold Addr.add;split <;> simp_all]
  match j,hu with
  | 0,hu=>simpa using q0.trans (by simpa using hu)
  | 1,hu=>simpa using q1.trans (by simpa using hu)
 have h1v:∀ u∈[x,y],u.oneCell'=true:=by
  intro u hu
  simp at hu
  rcases hu with e | e
  ·rw [e];exact hx
  ·rw [e];exact hy
 have hsz:(Tryz.prog.info? 79).map (·.size)=some 2:=by rw [hi];simp [hz1]
 have hov:∀ lb cb,(callFunc 195 #[.slice (some ⟨vb,0,none⟩) 1 1,.slice (some ⟨g,(p+1)*2,none⟩) lb cb]).run Tryz.prog w=.ok (.value (.bool false)) w:=fun lb cb=>by
  rw [run_callFunc_extern Tryz.func195 (by kernel_rfl) (by kernel_rfl) (by kernel_rfl) (e:=Extern.SlicesOverlaps.overlaps #[46,46] #[4]) (by kernel_rfl),
   Lib.run_overlaps_apart w 46 4 79 Tryz.underlying46 2 (fun w=>by simp [Go.sizeOf,typeInfo,hi,hz1]) ⟨vb,0,none⟩ ⟨g,(p+1)*2,none⟩ 1 1 lb cb hne 79 79 2 (d*2) (by simp [World.shape?,F]) (by simp [World.shape?,hG,hGs]) (by omega) q2 (by simp [World.frozen?,F])]
  rfl
 have hdl:(xs.drop (p*2)).length=(N-p)*2:=by rw [List.length_drop,hl];omega
 have hcp1:∀ ty dc sc,(Builtin.copy_ #[46,46] ty #[.slice (some ⟨g,(p+1)*2,none⟩) (N-p) dc,.slice (some ⟨g,p*2,none⟩) (N+1-p) sc]).run Tryz.prog w.drew=.ok (goInt (Nat.min (N+1-p) (N-p))) (w.drew.setCells g ((p+1)*2) (xs.drop (p*2))):=fun ty dc sc =>
  run_copy2 w.drew _ _ ty 79 g ((p+1)*2) (N-p) dc ⟨g,p*2,none⟩ (N+1-p) sc (xs.drop (p*2)) Tryz.underlying46 hsz (by rw [hdl];simp only [Nat.min_def];split <;> omega)
   (fun j v hj=>by
    rw [Addr.add_lit]
    have hj2:j<(xs.drop (p*2)).length:=by
     rcases Nat.lt_or_ge j (xs.drop (p*2)).length with h | h
     ·exact h
     ·rw [List.getElem?_eq_none h] at hj;cases hj
    rw [List.getElem?_drop] at hj
    exact (hcs (p*2+j) (by omega)).trans hj)
   (fun j hj=>hsp _ (by omega)) (fun j hj=>hfz _) (fun v hv=>h1c v (List.mem_of_mem_drop hv))
 obtain ⟨W1,hW1⟩:∃ W1,W1=w.drew.setCells g ((p+1)*2) (xs.drop (p*2)):=⟨_,rfl⟩
 have hcp2:∀ (W:World),(∀ x,W.cell? x=W1.cell? x)→(∀ x,W.frozen? x=W1.frozen? x)→∀ ty dc,(Builtin.copy_ #[46,46] ty #[.slice (some ⟨g,p*2,none⟩) (N+1-p) dc,.slice (some ⟨vb,0,none⟩) 1 1]).run Tryz.prog W=.ok (goInt (Nat.min 1 (N+1-p))) (W.setCells g (p*2) [x,y]):=fun W hWc hWf ty dc =>
  run_copy2 W _ _ ty 79 g (p*2) (N+1-p) dc ⟨vb,0,none⟩ 1 1 [x,y] Tryz.underlying46 hsz (by simp only [Nat.min_def];split <;> simp;omega)
   (fun j v hj=>by
    have:=hnw j v hj
    rw [Addr.add_lit] at this ⊢
    rw [hWc,hW1,World.cell?_setCells_out g _ _ _ _ (fun h _=>absurd h hne)]
    exact this)
   (fun j hj=>by rw [hWc,hW1];exact isSome_setCells g _ _ w.drew (fun t ht=>hsp ((p+1)*2+t) (by rw [hdl] at ht;omega)) _ (hsp (p*2+j) (by simp at hj;omega))) (fun j hj=>by rw [hWf,hW1,World.frozen?_setCells];exact hfz _) h1v
 rw [← hW1] at hcp1
 have hw1:IntKind.i64.wrap ((p:Int)+1)=(p:Int)+1:=by rw [IntKind.wrap_i64];omega
 have hw2:IntKind.i64.wrap ((N:Int)+1)=(N:Int)+1:=by rw [IntKind.wrap_i64];omega
 have hz2':¬ ((p:Int)=(N:Int)):=by omega
 have htn:((p:Int)+1).toNat=p+1:=by omega
 have htn2:((N:Int)+1).toNat=N+1:=by omega
 have hb1:(0:Int)≤(p:Int)+1:=by omega
 have hb3:(p:Int)≤(N:Int)+1:=by omega
 have hb5:(p:Int)≤(N:Int):=by omega
 have hb6:p≤N:=by omega
 have hb2:¬ (d=p+1):=by omega
 have hb4:¬ (d=p):=by omega
 have FIN:Hid (InsPost w base (.slice (some ⟨g,0,none⟩) N d) N p xs [x,y] (.returned (.slice (some ⟨g,0,none⟩) (N+1) d)) (W1.setCells g (p*2) [x,y])):=by
  obtain ⟨c1,k1,k2⟩:=setCells_block g (xs.drop (p*2)) ((p+1)*2) w.drew cur _ _ (show w.drew.heap[g]?=_ from hG)
  obtain ⟨c2,k3,k4⟩:=setCells_block g [x,y] (p*2) _ c1 _ _ k1
  refine ⟨g,d,rfl,own_of_cells (cur:=c2) (by rw [hW1];exact k3) hGb hd hGm (by omega) ?_ ?_,?_,.inl rfl⟩
  ·simp [hl];omega
  ·intro j hj
   rw [hW1]
   refine ins_cells (w:=w.drew) hl rfl (by omega) hcs hsp j ?_
   simp [hl] at hj;omega
  ·rw [hW1]
   exact grown_trans (grown_trans (drew_grown w (some g)) (setCells_grown g _ _ _) (fun k hk=>.inl hk)) (setCells_grown g _ _ _) (fun k hk=>.inl hk)
 have HOV:=hide hov
 have HC1:=hide hcp1
 have HC2:=hide hcp2
 clear hov hcp1 hcp2 hG hGs hGb hGm hcs hsp hfz hnw h1v hdl q0 q1 q2 q3 F own h1c hW1 hl
 go_enter Tryz.func154,Tryz.ntmps154
 have hov:=HOV.out
 go_wp2_with (simp only [hov])
 clear hov
 go_region_law (refine step_copy_runI rfl _ _ 46 46 rfl (.slice (some ⟨g,(p+1)*2,none⟩) (N-p) (d-(p+1))) (.slice (some ⟨g,p*2,none⟩) (N+1-p) (d-p)) (by simp [Act.eval,Act.put]) (by simp [Act.eval,Act.put]) (HC1.out 3 (d-(p+1)) (d-p)) ?_)
 go_wp2_with fail
 rw [HC2.out W1 (fun _=>rfl) (fun _=>rfl) 3 (d-p)]
 simp only [Result.andThen]
 rw [Oper.upon_value]
 go_wp2
 go_ret
 exact FIN.out
end Go.Proofs.YtoldmigappbjcaaGreatDoor
namespace Go.GrainU
open Go.RowKit Go.Proofs Go.Lib
theorem ins_cells2 {w:World} {g N p:Nat} {xs vs:List Value} (hl:xs.length=N*2) (hv:vs.length=2) (hp:p≤N) (hc:∀ j,j<p*2→w.cell? ⟨g,j,none⟩=xs[j]?) (hs:∀ j,j<(N+1)*2→(w.cell? ⟨g,j,none⟩).isSome=true) :
  ∀ j,j<(N+1)*2→((w.setCells g (p*2) vs).drew.setCells g ((p+1)*2) (xs.drop (p*2))).cell? ⟨g,j,none⟩=(xs.take (p*2)++(vs++xs.drop (p*2)))[j]?:=by
 intro j hj
 have hdl:(xs.drop (p*2)).length=N*2-p*2:=by rw [List.length_drop,hl]
 have htl:(xs.take (p*2)).length=p*2:=by rw [List.length_take,hl];omega
 rcases Nat.lt_or_ge j (p*2) with h | h
 ·rw [World.cell?_setCells_out _ _ _ _ _ (fun _ _=>.inl (by show j<_;omega))]
  show (w.setCells g (p*2) vs).cell? _=_
  rw [World.cell?_setCells_out _ _ _ _ _ (fun _ _=>.inl h),hc j h,List.getElem?_append_left (by omega),List.getElem?_take,if_pos h]
 ·rcases Nat.lt_or_ge j (p*2+2) with h' | h'
  ·rw [World.cell?_setCells_out _ _ _ _ _ (fun _ _=>.inl (by show j<_;omega))]
   show (w.setCells g (p*2) vs).cell? _=_
   have:=World.cell?_setCells_in g vs (p*2) w (fun i hi=>hs _ (by omega)) (j-p*2) (by omega)
   rw [show p*2+(j-p*2)=j by omega] at this
   rw [this,List.getElem?_append_right (by omega),htl,List.getElem?_append_left (by omega),List.getElem?_eq_getElem]
  ·have:=World.cell?_setCells_in g (xs.drop (p*2)) ((p+1)*2) (w.setCells g (p*2) vs).drew (fun i hi=>isSome_setCells _ _ _ w (fun t ht=>hs _ (by omega)) _ (hs _ (by omega))) (j-(p+1)*2) (by omega)
   rw [show (p+1)*2+(j-(p+1)*2)=j by omega] at this
   rw [this,List.getElem?_append_right (by omega),htl,List.getElem?_append_right (by omega),hv,← List.getElem?_eq_getElem]
   congr 1
   omega
end Go.GrainU
namespace Go.Proofs.YtoldmigappbjcaaGreatDoor
open Go.RowKit Go.GrainU Go.Lib
set_option maxRecDepth 100000 in
set_option maxHeartbeats 4000000 in
theorem ins_grow (xs:List Value) (base N d p vb g:Nat) (x y:Value) (w:World) (own:w.ownsRow base 79 2 (.slice (some ⟨g,0,none⟩) N d) N xs) (hp:p<N) (hN:N≤8) (hd:d<N+1) (hbase:base≤w.heap.size) (F:w.heap[vb]?=some (.cells #[x,y] 79 (0,0))) (hx:x.oneCell'=true) (hy:y.oneCell'=true) (h1c:∀ u∈xs,u.oneCell'=true) :
  Calls Tryz.prog 154 #[.slice (some ⟨g,0,none⟩) N d,.int .i64 p,.slice (some ⟨vb,0,none⟩) 1 1] w (InsPost w base (.slice (some ⟨g,0,none⟩) N d) N p xs [x,y]):=by
 obtain ⟨i0,hi,hz0,hz1,hz2⟩:=info_parts Tryz.infoCell
 have hl:xs.length=N*2:=own.1
 have hdN:N≤d:=(own_cap own).1
 have hcs:∀ j,j<xs.length→w.cell? ⟨g,j,none⟩=xs[j]?:=fun j hj=>own.cellAt j (by omega)
 have hgl:g<w.heap.size:=(own_block own).2
 have hvl:vb<w.heap.size:=lt_of_block F
 obtain ⟨q0,q1,q2,q3⟩:=two_cells F
 have hnw:∀ j v,[x,y][j]?=some v→w.cell? ⟨vb,0+j,none⟩=some v:=by
  intro j u hu
  match j,hu with
  | 0,hu=>simpa using q0.trans (by simpa using hu)
  | 1,hu=>simpa using q1.trans (by simpa using hu)
 have h1v:∀ u∈[x,y],u.oneCell'=true:=by
  intro u hu
  simp at hu
  rcases hu with e | e
  ·rw [e];exact hx
  ·rw [e];exact hy
 have hsz:(Tryz.prog.info? 79).map (·.size)=some 2:=by rw [hi];simp [hz1]
 have hkk:(N:Int)+1-(p:Int)=((N+1-p:Nat):Int):=by omega
 have hik:p+(N+1-p)=N+1:=by omega
 have hold:(Builtin.firstCells i0.size p (.slice (some ⟨g,0,none⟩) p d)).run Tryz.prog w.drew=.ok (xs.take (p*2)).toArray w.drew:=by
  rw [hz1]
  exact run_firstCells_some w.drew 2 p ⟨g,0,none⟩ p d (xs.take (p*2)) (by rw [List.length_take];omega) (fun j v hj=>by
   rw [Addr.add_lit,Nat.zero_add]
   rw [List.getElem?_take] at hj
   split at hj
   ·have hj2:j<xs.length:=by omega
    exact (hcs j hj2).trans hj
   ·cases hj)
 obtain ⟨G,hG⟩:∃ G,G=grownCap w (N+1) d 79:=⟨_,rfl⟩
 obtain ⟨ROW,hROW⟩:∃ ROW:Array Value,ROW=(xs.take (p*2)).toArray++Builtin.zeroCells (Value.agg #[.slice none 0 0,.int .i64 0]).cells (N+1-p)++Builtin.zeroCells (Value.agg #[.slice none 0 0,.int .i64 0]).cells (G-(N+1)):=⟨_,rfl⟩
 have hrz:∀ ty,(Builtin.append_ #[46,3] ty #[.slice (some ⟨g,0,none⟩) p d,.int .i64 ((N:Int)+1-(p:Int))]).run Tryz.prog w =
   .ok (.slice (some ⟨w.heap.size,0,none⟩) (N+1) G) (w.drew.alloc (.cells ROW 79)):=fun ty=>by
  have h:=Lib.run_append_grow_zeros w 46 3 ty 79 i0 _ .i64 .i64 Tryz.underlying46 Tryz.underlying3 hi hz0 (some ⟨g,0,none⟩) p d (xs.take (p*2)) hold (N+1-p) (by omega) (by omega) (by omega) (by omega) (by rw [hz2];omega) (by rw [hz2,hik];exact growslice_fits hd (by omega))
  rw [hik] at h
  rw [hkk,hROW,hG]
  exact h
 have hGn:N+1≤G:=by rw [hG];exact grownCap_ge w _ _ _
 have hGm:G≤maxLen:=by rw [hG];exact grownCap_le_maxLen w (N+1) d 79 (by unfold maxLen;omega)
 have hRs:ROW.size=G*2:=by
  rw [hROW]
  simp [Builtin.zeroCells,Value.cells,hl]
  omega
 have hR0:∀ j,j<p*2→ROW[j]?=xs[j]?:=fun j hj=>by
  rw [hROW,Array.getElem?_append_left (by simp [Builtin.zeroCells,Value.cells,hl];omega),Array.getElem?_append_left (by simp [hl];omega)]
  simp [hj]
 obtain ⟨W1,hW1⟩:∃ W1,W1=w.drew.alloc (.cells ROW 79):=⟨_,rfl⟩
 have hN1:∀ j,j<(N+1)*2→(W1.cell? ⟨w.heap.size,j,none⟩).isSome=true:=fun j hj=>by
  rw [hW1,World.cell?_alloc_at (w:=w.drew) ROW _ w.heap.size j rfl,Array.getElem?_eq_getElem (by omega)];rfl
 have hN0:∀ j,j<p*2→W1.cell? ⟨w.heap.size,j,none⟩=xs[j]?:=fun j hj=>by
  rw [hW1,World.cell?_alloc_at (w:=w.drew) ROW _ w.heap.size j rfl];exact hR0 j hj
 have hNf:∀ j,W1.frozen? ⟨w.heap.size,j,none⟩=false:=fun j=>by rw [hW1];exact World.frozen?_alloc_at (w:=w.drew) ROW _ w.heap.size j rfl
 have hOg:∀ j,W1.cell? ⟨g,j,none⟩=w.cell? ⟨g,j,none⟩:=fun j=>by rw [hW1,World.cell?_alloc_past (w:=w.drew) _ g j hgl];rfl
 have hOv:∀ j,W1.cell? ⟨vb,j,none⟩=w.cell? ⟨vb,j,none⟩:=fun j=>by rw [hW1,World.cell?_alloc_past (w:=w.drew) _ vb j hvl];rfl
 have hdl:(xs.drop (p*2)).length=(N-p)*2:=by rw [List.length_drop,hl];omega
 have hcpA:∀ (W:World),(∀ x,W.cell? x=W1.cell? x)→(∀ x,W.frozen? x=W1.frozen? x)→∀ ty dc,(Builtin.copy_ #[46,46] ty #[.slice (some ⟨w.heap.size,p*2,none⟩) (N+1-p) dc,.slice (some ⟨vb,0,none⟩) 1 1]).run Tryz.prog W=.ok (goInt (Nat.min 1 (N+1-p))) (W.setCells w.heap.size (p*2) [x,y]):=fun W hWc hWf ty dc =>
  run_copy2 W _ _ ty 79 w.heap.size (p*2) (N+1-p) dc ⟨vb,0,none⟩ 1 1 [x,y] Tryz.underlying46 hsz (by simp only [Nat.min_def];split <;> simp;omega)
   (fun j v hj=>by rw [Addr.add_lit,hWc,hOv];exact hnw j v hj)
   (fun j hj=>by rw [hWc];exact hN1 _ (by simp at hj;omega)) (fun j hj=>by rw [hWf];exact hNf _) h1v
 have hbN:g≠w.heap.size:=by omega
 have hcpB:∀ (W:World),(∀ z,W.frozen? z=(W1.setCells w.heap.size (p*2) [x,y]).frozen? z)→(∀ z,W.cell? z=(W1.setCells w.heap.size (p*2) [x,y]).cell? z)→∀ ty dc sc,(Builtin.copy_ #[46,46] ty #[.slice (some ⟨w.heap.size,(p+1)*2,none⟩) (N-p) dc,.slice (some ⟨g,p*2,none⟩) (N-p) sc]).run Tryz.prog W=.ok (goInt (Nat.min (N-p) (N-p))) (W.setCells w.heap.size ((p+1)*2) (xs.drop (p*2))):=fun W hWf hWc ty dc sc =>
  run_copy2 W _ _ ty 79 w.heap.size ((p+1)*2) (N-p) dc ⟨g,p*2,none⟩ (N-p) sc (xs.drop (p*2)) Tryz.underlying46 hsz (by rw [hdl];simp)
   (fun j v hj=>by
    have hj2:j<(xs.drop (p*2)).length:=by
     rcases Nat.lt_or_ge j (xs.drop (p*2)).length with h | h
     ·exact h
     ·rw [List.getElem?_eq_none h] at hj;cases hj
    rw [Addr.add_lit,hWc,World.cell?_setCells_out _ _ _ _ _ (fun h _=>absurd h hbN),hOg]
    rw [List.getElem?_drop] at hj
    exact (hcs (p*2+j) (by omega)).trans hj)
   (fun j hj=>by rw [hWc];exact isSome_setCells _ _ _ W1 (fun t ht=>hN1 (p*2+t) (by simp at ht;omega)) _ (hN1 ((p+1)*2+j) (by omega)))
   (fun j hj=>by rw [hWf,World.frozen?_setCells];exact hNf _) (fun v hv=>h1c v (List.mem_of_mem_drop hv))
 have FIN:Hid (InsPost w base (.slice (some ⟨g,0,none⟩) N d) N p xs [x,y] (.returned (.slice (some ⟨w.heap.size,0,none⟩) (N+1) G)) ((W1.setCells w.heap.size (p*2) [x,y]).drew.setCells w.heap.size ((p+1)*2) (xs.drop (p*2)))):=by
  have k0:W1.heap[w.heap.size]?=some (.cells ROW 79 (0,0)):=by rw [hW1];exact heap_alloc_new w.drew _
  obtain ⟨c1,k1,k2⟩:=setCells_block w.heap.size [x,y] (p*2) W1 ROW _ _ k0
  obtain ⟨c2,k3,k4⟩:=setCells_block w.heap.size (xs.drop (p*2)) ((p+1)*2) (W1.setCells w.heap.size (p*2) [x,y]).drew c1 _ _ k1
  refine ⟨w.heap.size,G,rfl,own_of_cells (cur:=c2) k3 hbase hGn hGm (by omega) ?_ ?_,?_,.inr (Nat.le_refl _)⟩
  ·simp [hl];omega
  ·intro j hj
   refine ins_cells2 (w:=W1) hl rfl (by omega) hN0 hN1 j ?_
   simp [hl] at hj;omega
  ·have g1:w.grownBy W1 (some g):=by rw [hW1];exact grown_trans (drew_grown w (some g)) (World.grownBy_alloc w.drew _ none) (fun k hk=>by cases hk)
   have g2:=grown_trans g1 (setCells_grown w.heap.size [x,y] (p*2) W1) (fun k hk=>.inr (by injection hk with hk;omega))
   have g3:=grown_trans g2 (drew_grown _ none) (fun k hk=>by cases hk)
   exact grown_trans g3 (setCells_grown w.heap.size (xs.drop (p*2)) ((p+1)*2) _) (fun k hk=>.inr (by injection hk with hk;omega))
 have HRZ:=hide hrz
 have HCA:=hide hcpA
 have HCB:=hide hcpB
 have hw1:IntKind.i64.wrap ((p:Int)+1)=(p:Int)+1:=by rw [IntKind.wrap_i64];omega
 have hw2:IntKind.i64.wrap ((N:Int)+1)=(N:Int)+1:=by rw [IntKind.wrap_i64];omega
 have hw3:IntKind.i64.wrap ((N:Int)+1-(p:Int))=(N:Int)+1-(p:Int):=by rw [IntKind.wrap_i64];omega
 have hz2':¬ ((p:Int)=(N:Int)):=by omega
 have hz3:(d:Int)<(N:Int)+1:=by omega
 have htn:((p:Int)+1).toNat=p+1:=by omega
 have hb1:(0:Int)≤(p:Int)+1:=by omega
 have hb3:(p:Int)≤(N:Int)+1:=by omega
 have hb5:(p:Int)≤(N:Int):=by omega
 have hb6:p≤N:=by omega
 have hb7:p≤d:=by omega
 have hGi:¬ (G=p):=by omega
 have hGim:¬ (G=p+1):=by omega
 have hci:¬ (d=p):=by omega
 have HG:=hide (And.intro hGn hGm)
 have hb8:p≤N+1:=by omega
 clear hrz hcpA hcpB hGn hGm hRs hR0 hN0 hN1 hNf hOg hOv hdl hkk hik hold hROW hG hcs hgl hvl q0 q1 q2 q3 F own h1c h1v hnw hl
 have HRW:Hid (∀ ty,(Builtin.append_ #[46,3] ty #[.slice (some ⟨g,0,none⟩) p d,.int .i64 ((N:Int)+1-(p:Int))]).run Tryz.prog w=.ok (.slice (some ⟨w.heap.size,0,none⟩) (N+1) G) W1):=fun ty=>by rw [hW1];exact HRZ.out ty
 clear HRZ hW1
 go_enter Tryz.func154,Tryz.ntmps154
 go_wp2_with (at_builtin;refine Lib.wpList_append_run _ rfl _ _ _ _ rfl _ _ rfl rfl _ _ (HRW.out _) ?_)
 rw [HCA.out W1 (fun _=>rfl) (fun _=>rfl) 3 (G-p)]
 simp only [Result.andThen]
 rw [Oper.upon_value]
 go_wp2_with fail
 have hn1:=HG.out.1
 go_region_law (refine step_copy_runI rfl _ _ 46 46 rfl (.slice (some ⟨w.heap.size,(p+1)*2,none⟩) (N-p) (G-(p+1))) (.slice (some ⟨g,p*2,none⟩) (N-p) (d-p)) (by simp [Act.eval,Act.put]) (by simp [Act.eval,Act.put]) (HCB.out (W1.setCells w.heap.size (p*2) [x,y]).drew (fun _=>rfl) (fun _=>rfl) 3 (G-(p+1)) (d-p)) ?_)
 go_wp2
 go_ret
 exact FIN.out
theorem ins_any (l:List CT) (c:CT) (base N d p vb cn:Nat) (co:Option Addr) (w:World) (own:OwnC w base 79 (.slice co N d) N l) (hp:p≤N) (hN:N≤8) (hbase:base≤w.heap.size) (F:w.heap[vb]?=some (.cells #[.slice c.sa cn c.sc,.int .i64 c.v] 79 (0,0))) (hcn:cn=c.ser.length)
  (hne:(Value.slice co N d).ownBlock≠some vb) (hc:SegN w (Value.slice co N d).ownBlock c.sa (lcells c.ser)) :
  Calls Tryz.prog 154 #[.slice co N d,.int .i64 p,.slice (some ⟨vb,0,none⟩) 1 1] w fun e w'=>∃ co' d',e=.returned (.slice co' (N+1) d')∧OwnC w' base 79 (.slice co' (N+1) d') (N+1) (l.take p++c::l.drop p)∧w.grownBy w' (Value.slice co N d).ownBlock:=by
 have key:Calls Tryz.prog 154 #[.slice co N d,.int .i64 p,.slice (some ⟨vb,0,none⟩) 1 1] w (InsPost w base (.slice co N d) N p (ccells l) [.slice c.sa cn c.sc,.int .i64 c.v]):=by
  by_cases he:p=N
  ·rw [he];exact ins_end (ccells l) base N d vb co _ _ w own.own hN hbase F rfl rfl
  ·have hg:∃ g,co=some ⟨g,0,none⟩:=by
    rcases own.own.2 with ⟨_,h⟩ | ⟨g,cp,cur,h,_⟩
    ·omega
    ·injection h with h1 _ _
     exact ⟨g,h1⟩
   obtain ⟨g,rfl⟩:=hg
   by_cases hr:N+1≤d
   ·exact ins_room (ccells l) base N d p vb g _ _ w own.own (by omega) hN hr F (fun e=>hne (by simp [Value.ownBlock,e])) rfl rfl (ccells_one l)
   ·exact ins_grow (ccells l) base N d p vb g _ _ w own.own (by omega) hN (by omega) hbase F rfl rfl (ccells_one l)
 refine key.mono fun e w' h=>?_
 obtain ⟨g',d',rfl,ow,gr,hat⟩:=h
 have hr:∀ k,(Value.slice (some ⟨g',0,none⟩) (N+1) d').ownBlock=some k→(Value.slice co N d).ownBlock=some k∨w.heap.size≤k:=fun k hk=>by
  simp [Value.ownBlock] at hk
  subst hk
  exact hat
 refine ⟨some ⟨g',0,none⟩,d',rfl,⟨?_,fun x hx=>?_⟩,gr⟩
 ·rw [ccells_append,ccells_take]
  show w'.ownsRow base 79 2 _ _ (_++(.slice c.sa c.ser.length c.sc::.int .i64 c.v::ccells (l.drop p)))
  rw [ccells_drop,← hcn]
  exact ow
 ·rcases List.mem_append.1 hx with e | e
  ·exact (own.ser x (List.mem_of_mem_take e)).grown gr hr
  ·rcases List.mem_cons.1 e with e | e
   ·rw [e];exact hc.grown gr hr
   ·exact (own.ser x (List.mem_of_mem_drop e)).grown gr hr
end Go.Proofs.YtoldmigappbjcaaGreatDoor
namespace Go.GrainU
open Go.RowKit
theorem ct_zero (a:CT) (r:List CT):ct (a::r) 0=a:=rfl
theorem ct_succ (a:CT) (r:List CT) (k:Nat):ct (a::r) (k+1)=ct r k:=rfl
def ctw (c:CT) (v:Int):CT:=⟨c.ser,v,c.sa,c.sc⟩
theorem put_idx (w : ByteArray) (s : Lb) (v : Int) : ∀ l : List CT, Srt (cls l) → ∃ p, p ≤ l.length ∧ (∀ k, k < l.length → (cmpS (ct l k).ser s < 0 ↔ k < p)) ∧
    ((p < l.length ∧ cmpS (ct l p).ser s = 0 ∧ putA w s v (cls l) = if big (tog w (ct l p).v v) = true then none else some (cls (l.set p (ctw (ct l p) (tog w (ct l p).v v))))) ∨
     (¬ (p < l.length ∧ cmpS (ct l p).ser s = 0) ∧ ∀ c : CT, c.cl = (s, v) → putA w s v (cls l) = some (cls (l.take p ++ c :: l.drop p)))) := by
  intro l
  induction l with
  | nil => intro _; exact ⟨0, Nat.le_refl _, fun k hk => by simp at hk, .inr ⟨fun h => by simp at h, fun c hc => by simp [cls, putA, hc]⟩⟩
  | cons a r ih =>
    intro hs
    have hs' : (∀ x ∈ cls r, cmpS a.cl.1 x.1 = -1) ∧ Srt (cls r) := List.pairwise_cons.1 hs
    by_cases ha : cmpS a.ser s < 0
    · obtain ⟨p, hp, hk, hc⟩ := ih hs'.2
      refine ⟨p + 1, by simp; omega, ?_, ?_⟩
      · intro k hk'
        match k with
        | 0 => exact ⟨fun _ => by omega, fun _ => ha⟩
        | k + 1 =>
          rw [ct_succ]
          have := hk k (by simpa using hk')
          omega
      · rw [ct_succ]
        have e : putA w s v (cls (a :: r)) = (putA w s v (cls r)).map (a.cl :: ·) := by
          show putA w s v (a.cl :: cls r) = _
          rw [putA, if_pos (show cmpS a.cl.1 s < 0 from ha)]
        rcases hc with ⟨h1, h2, h3⟩ | ⟨h1, h2⟩
        · refine .inl ⟨by simp; omega, h2, ?_⟩
          rw [e, h3]
          split
          · rfl
          · simp [cls]
        · refine .inr ⟨fun h => h1 ⟨by have := h.1; simp at this; omega, h.2⟩, fun c hc => ?_⟩
          rw [e, h2 c hc]
          simp [cls]
    · refine ⟨0, Nat.zero_le _, ?_, ?_⟩
      · intro k hk'
        refine ⟨fun h => ?_, fun h => by omega⟩
        match k with
        | 0 => exact absurd h ha
        | k + 1 =>
          rw [ct_succ] at h
          have hk2 : k < r.length := by simpa using hk'
          have h1 : cmpS a.ser (ct r k).ser = -1 := hs'.1 (ct r k).cl (List.mem_map_of_mem (ct_mem hk2))
          have h2 : cmpS (ct r k).ser s = -1 := by rcases cmpS_cases (ct r k).ser s with e | ⟨e, _⟩ | e <;> omega
          have := cmpS_trans h1 h2
          omega
      · rw [ct_zero]
        have e : putA w s v (cls (a :: r)) = if cmpS a.ser s = 0 then (if big (tog w a.v v) = true then none else some ((a.ser, tog w a.v v) :: cls r)) else some ((s, v) :: a.cl :: cls r) := by
          show putA w s v (a.cl :: cls r) = _
          rw [putA, if_neg (show ¬ cmpS a.cl.1 s < 0 from ha)]
          rfl
        by_cases h0 : cmpS a.ser s = 0
        · refine .inl ⟨by simp, h0, ?_⟩
          rw [e, if_pos h0]
          rfl
        · refine .inr ⟨fun h => h0 h.2, fun c hc => ?_⟩
          rw [e, if_neg h0]
          simp [cls, hc]
theorem put_srt (w:ByteArray) (s:Lb) (v:Int):∀ l:List Cl,Srt l→∀ l',putA w s v l=some l'→Srt l'∧(∀ c∈l',c.1=s∨c∈l):=by
 intro l
 induction l with
 | nil =>
  intro _ l' h
  simp [putA] at h
  subst h
  exact ⟨by simp [Srt],fun c hc=>by simp at hc;left;rw [hc]⟩
 | cons a r ih =>
  intro hs l' h
  have hs':(∀ x∈r,cmpS a.1 x.1 = -1)∧Srt r:=List.pairwise_cons.1 hs
  rw [putA] at h
  split at h
  ·rename_i ha
   cases hq:putA w s v r with
   | none=>rw [hq] at h;cases h
   | some q =>
    rw [hq] at h
    simp at h
    subst h
    obtain ⟨i1,i2⟩:=ih hs'.2 q hq
    refine ⟨List.pairwise_cons.2 ⟨fun x hx=>?_,i1⟩,fun c hc=>?_⟩
    ·rcases i2 x hx with e | e
     ·rw [e];rcases cmpS_cases a.1 s with e' | ⟨e',_⟩ | e' <;> omega
     ·exact hs'.1 x e
    ·rcases List.mem_cons.1 hc with e | e
     ·right;rw [e];simp
     ·rcases i2 c e with e | e
      ·exact .inl e
      ·right;simp [e]
  ·rename_i ha
   split at h
   ·rename_i h0
    split at h
    ·cases h
    ·simp at h
     subst h
     refine ⟨List.pairwise_cons.2 ⟨fun x hx=>hs'.1 x hx,hs'.2⟩,fun c hc=>?_⟩
     rcases List.mem_cons.1 hc with e | e
     ·left;rw [e];exact (cmpS_zero _ _).1 h0
     ·right;simp [e]
   ·rename_i h0
    simp at h
    subst h
    have h1:cmpS s a.1 = -1:=by
     have:=cmpS_back a.1 s
     rcases cmpS_cases a.1 s with e' | ⟨e',_⟩ | e' <;> omega
    refine ⟨List.pairwise_cons.2 ⟨fun x hx=>?_,hs⟩,fun c hc=>?_⟩
    ·rcases List.mem_cons.1 hx with e | e
     ·rw [e];exact h1
     ·exact cmpS_trans h1 (hs'.1 x e)
    ·rcases List.mem_cons.1 hc with e | e
     ·left;rw [e]
     ·right;exact e
theorem put_fine {w:ByteArray} {s:Lb} {v:Int} (hs:s.length≤4) (hv : -MC≤v∧v≤MC):∀ {l:List Cl},(∀ c∈l,Fine c)→∀ {l'},putA w s v l=some l'→(∀ c∈l',Fine c)∧l'.length≤l.length+1:=by
 intro l
 induction l with
 | nil =>
  intro _ l' h
  simp [putA] at h
  subst h
  exact ⟨fun c hc=>by simp at hc;rw [hc];exact ⟨hv.1,hv.2,hs⟩,by simp⟩
 | cons a r ih =>
  intro hf l' h
  have fa:=hf a (by simp)
  have fr:∀ c∈r,Fine c:=fun c hc=>hf c (by simp [hc])
  rw [putA] at h
  split at h
  ·cases hq:putA w s v r with
   | none=>rw [hq] at h;cases h
   | some q =>
    rw [hq] at h
    simp at h
    subst h
    obtain ⟨i1,i2⟩:=ih fr hq
    refine ⟨fun c hc=>?_,by simp;omega⟩
    rcases List.mem_cons.1 hc with e | e
    ·rw [e];exact fa
    ·exact i1 c e
  ·split at h
   ·split at h
    ·cases h
    ·rename_i hb
     simp at h
     subst h
     refine ⟨fun c hc=>?_,by simp⟩
     rcases List.mem_cons.1 hc with e | e
     ·rw [e]
      have:=big_false (by simpa using hb:big (tog w a.2 v)=false)
      exact ⟨this.1,this.2,fa.2.2⟩
     ·exact fr c e
   ·simp at h
    subst h
    refine ⟨fun c hc=>?_,by simp⟩
    rcases List.mem_cons.1 hc with e | e
    ·rw [e];exact ⟨hv.1,hv.2,hs⟩
    ·rcases List.mem_cons.1 e with e | e
     ·rw [e];exact fa
     ·exact fr c e
open Go.RowKit
theorem ccells_set:∀ (l:List CT) (p:Nat) (v:Int),p<l.length→(ccells l).set (p*2+1) (.int .i64 v)=ccells (l.set p (ctw (ct l p) v))
 | [],_,_,h=>by simp at h
 | a::r,0,v,_=>rfl
 | a::r,p+1,v,h=>by
  have ih:=ccells_set r p v (by simpa using h)
  rw [show (p+1)*2+1=(p*2+1)+1+1 from by omega]
  simp only [ccells,List.set_cons_succ,ih,ct_succ]
theorem cell_set {w:World} {base e size g n cap:Nat} {xs:List Value} (h:w.ownsRow base e size (.slice (some ⟨g,0,none⟩) n cap) n xs) (j:Nat) (u:Value) (hj:j<xs.length) :
  (w.setCell ⟨g,j,none⟩ u).ownsRow base e size (.slice (some ⟨g,0,none⟩) n cap) n (xs.set j u):=by
 obtain ⟨cur,hG,h1,h2,h3,h4⟩:∃ cur,w.heap[g]?=some (.cells cur e (0,0))∧base≤g∧n≤cap∧cap≤maxLen∧cur.size=cap*size:=by
  rcases h.2 with ⟨h0,_⟩ | ⟨g',c,cur,h0,hb,hh,k1,k2,k3,_⟩
  ·cases h0
  ·injection h0 with e1 _ e3
   injection e1 with e1
   injection e1 with e1 _ _
   subst e1
   subst e3
   exact ⟨cur,hh,hb,k1,k2,k3⟩
 have hl:=h.1
 obtain ⟨c1,k1,k2⟩:=setCells_block g [u] j w cur _ _ hG
 have hs:∀ i,i<xs.length→w.cell? ⟨g,i,none⟩=xs[i]?:=fun i hi=>h.cellAt i (by omega)
 refine own_of_cells (cur:=c1) k1 h1 h2 h3 (by omega) (by simpa using hl) ?_
 intro i hi
 simp at hi
 by_cases e:i=j
 ·subst e
  have:=World.cell?_setCells_in g [u] i w (fun t ht=>by
   simp at ht
   subst ht
   rw [Nat.add_zero,hs i hi,List.getElem?_eq_getElem hi];rfl) 0 (by simp)
  rw [Nat.add_zero] at this
  show (w.setCells g i [u]).cell? _=_
  rw [this]
  simp [hi]
 ·have:=World.cell?_setCells_out g [u] j w ⟨g,i,none⟩ (fun _ _=>by show i<j∨j+1≤i;omega)
  show (w.setCells g j [u]).cell? _=_
  rw [this,hs i hi,List.getElem?_set_ne (fun h=>e h.symm)]
theorem OwnC.put {w:World} {base T N d g p:Nat} {l:List CT} (h:OwnC w base T (.slice (some ⟨g,0,none⟩) N d) N l) (hp:p<l.length) (v:Int) :
  OwnC (w.setCell ⟨g,p*2+1,none⟩ (.int .i64 v)) base T (.slice (some ⟨g,0,none⟩) N d) N (l.set p (ctw (ct l p) v)):=by
 have gr:w.grownBy (w.setCell ⟨g,p*2+1,none⟩ (.int .i64 v)) (some g):=setCells_grown g [.int .i64 v] (p*2+1) w
 refine ⟨?_,fun c hc=>?_⟩
 ·rw [← ccells_set l p v hp]
  exact cell_set h.own _ _ (by rw [ccells_length];omega)
 ·have hk:∃ c'∈l,c.sa=c'.sa∧c.ser=c'.ser:=by
   rcases List.mem_or_eq_of_mem_set hc with e | e
   ·exact ⟨c,e,rfl,rfl⟩
   ·exact ⟨ct l p,ct_mem hp,by rw [e];rfl,by rw [e];rfl⟩
  obtain ⟨c',hc',e1,e2⟩:=hk
  rw [e1,e2]
  exact (h.ser c' hc').grown gr (fun k hk=>.inl hk)
theorem seg_far {w:World} {ao:Option Addr} {s:Lb} {B t o:Nat} {f:Bool} {a:Option Addr} {n c:Nat} {fr:Nat×Nat} (h:Seg w ao (lcells s)) (hB:w.heap[B]?=some (.cells #[.bool f,.slice a n c] t fr)) (v:Value):Seg (w.setCell ⟨B,o,none⟩ v) ao (lcells s):=by
 rcases h with h | ⟨b,off,rfl,h⟩
 ·exact .inl h
 ·cases s with
  | nil=>exact .inl rfl
  | cons x r =>
   have h0:=h 0 (by simp [lcells])
   have hne:b≠B:=by
    intro e
    subst e
    simp [World.cell?,hB,lcells] at h0
    match off,h0 with
    | 0,h0=>simp at h0
    | 1,h0=>simp at h0
    | q+2,h0=>simp at h0
   refine .inr ⟨b,off,rfl,fun j hj=>?_⟩
   rw [cell_of_block (setCell_far hne)]
   exact h j hj
theorem allA_no {w:ByteArray} {ks:List ByteArray} {out:List Cl} {c:Cl} {r:List Cl} (h:putA w (only c.1 ks) (one1 w c.2) out=none):allA w ks out (c::r)=none:=by simp [allA,h]
theorem allA_yes {w:ByteArray} {ks:List ByteArray} {out out':List Cl} {c:Cl} {r:List Cl} (h:putA w (only c.1 ks) (one1 w c.2) out=some out'):allA w ks out (c::r)=allA w ks out' r:=by simp [allA,h]
end Go.GrainU
namespace Go.Proofs.YtoldmigappbjcaaGreatDoor
open Go.RowKit Go.GrainU
structure AI (W wr:World) (co:Option Addr) (N d k:Nat) (cts:List CT):Prop where
 bel:Below W.heap.size W wr
 own:OwnC wr W.heap.size 79 (.slice co N d) N cts
 srt:Srt (cls cts)
 fin:∀ c∈cls cts,Fine c
 len:N≤k
theorem AI.call {W wr w':World} {co:Option Addr} {N d k:Nat} {cts:List CT} (I:AI W wr co N d k cts) (hb:Below wr.heap.size wr w'):AI W w' co N d k cts :=
 ⟨I.bel.trans (hb.mono I.bel.size),I.own.below hb,I.srt,I.fin,I.len⟩
set_option maxRecDepth 100000 in
set_option maxHeartbeats 8000000 in
theorem mall_any (l:List CT) (ks:List ByteArray) (x:ByteArray) (ao bo:Option Addr) (n d0 m bc:Nat) (w:World) (hl:CsIn w ao l) (hk:Seg w bo (wcells ks)) (hn:n=l.length) (hm:m=ks.length) (hM:m≤9223372036854775807) (hf:∀ c∈cls l,Fine c) (hn8:n≤8) :
  Calls Tryz.prog 110 #[.slice ao n d0,.string x,.slice bo m bc] w fun e w'=>MPost ((allA x ks [] (cls l)).map fun c=>⟨false,c⟩) e w'∧Below w.heap.size w w':=by
 have HN:=hide hn
 have HM:=hide hm
 have HF:=hide hf
 clear hn hm hf
 obtain ⟨W,hW⟩:∃ W,W=w.alloc (.cells #[.bool false,.slice none 0 0] 131):=⟨_,rfl⟩
 have bel0:Below w.heap.size w W:=by rw [hW];exact (Below.refl _ _).alloc (Nat.le_refl _) _
 have F0:W.heap[w.heap.size]?=some (.cells #[.bool false,.slice none 0 0] 131 (0,0)):=by rw [hW];exact heap_alloc_new w _
 have hlW:=hl.below bel0
 have hkW:=hk.below bel0
 have HW:=hide hW
 clear hW hl hk
 go_enter Tryz.func110,Tryz.ntmps110
 go_wp2
 rw [← HW.out]
 go_loopw [8,18] (fun out i wr=>∃ (k N d:Nat) (co:Option Addr) (cts:List CT),k≤n∧i=.int .i64 k∧out=.slice co N d∧AI W wr co N d k cts∧Hid (allA x ks [] (cls l)=allA x ks (cls cts) (cls (l.drop k)))) (fun _ i _=>n-(intOf i).toNat)
 case atStart=>exact ⟨0,0,0,none,[],Nat.zero_le _,rfl,rfl,⟨Below.refl _ _,OwnC.nil _ _ _,by simp [Srt,cls],fun c hc=>by simp [cls] at hc,Nat.le_refl _⟩,rfl⟩
 case round =>
  obtain ⟨k,N,d,co,cts,hk,rfl,rfl,I,HA⟩:=hrel
  by_cases hlt:k<n
  ·have hkl:k<l.length:=by rw [← HN.out];exact hlt
   obtain ⟨b,off,rfl,hb,hcell⟩:=seg_cell hlW.seg hkl
   obtain ⟨c,hc⟩:∃ c,c=ct l k:=⟨_,rfl⟩
   obtain ⟨cn,hcn⟩:∃ cn,cn=c.ser.length:=⟨_,rfl⟩
   have segc:Seg W c.sa (lcells c.ser):=by rw [hc];exact hlW.ser _ (ct_mem hkl)
   have c0:wr.cell? ⟨b,off+k*2,none⟩=some (.slice c.sa cn c.sc):=by rw [hcn,hc];exact (I.bel.cell (by exact hb)).trans (hcell k hkl).1
   have c1:wr.cell? ⟨b,off+k*2+1,none⟩=some (.int .i64 c.v):=by rw [hc];exact (I.bel.cell (by exact hb)).trans (hcell k hkl).2
   have fc:Fine c.cl:=HF.out _ (by rw [hc];exact List.mem_map_of_mem (ct_mem hkl))
   have HD:Hid (cls (l.drop k)=c.cl::cls (l.drop (k+1))):=by show _=_;rw [cls_drop hkl,hc]
   obtain ⟨v,hv⟩:∃ v,v=one1 x c.v:=⟨_,rfl⟩
   have hv2 : -MC≤v∧v≤MC:=by
    rw [hv];unfold one1
    split
    ·simp [MC]
    ·exact ⟨fc.1,fc.2.1⟩
   obtain ⟨V,hV⟩:∃ V,V=wr.alloc (.cells #[.slice c.sa cn c.sc,.int .i64 v] 79):=⟨_,rfl⟩
   obtain ⟨X,hX⟩:∃ X,X=wr.heap.size:=⟨_,rfl⟩
   have F1:V.heap[X]?=some (.cells #[.slice c.sa cn c.sc,.int .i64 v] 79 (0,0)):=by rw [hV,hX];exact heap_alloc_new wr _
   have belA:Below wr.heap.size wr V:=by rw [hV];exact (Below.refl _ _).alloc (Nat.le_refl _) _
   have IV:=I.call belA
   have cn4:cn≤4:=by rw [hcn];exact fc.2.2
   have HV:=hide hV
   have HX:=hide hX
   have HCN:=hide hcn
   have Hv:=hide hv
   clear hV hcn hc hkl hcell I belA hv fc
   obtain ⟨Q,hQ⟩:∃ Q,Q=decide (x=lit [99,111,117,110,116]):=⟨_,rfl⟩
   have HQ:=hide hQ
   clear hQ
   go_upto_region 5 with fail
   go_cut [23] from 22 to 23 (fun v23 wx=>v23=.bool Q∧wx=wr.alloc (.cells #[.slice c.sa cn c.sc,.int .i64 c.v] 79))
   case first =>
    by_cases hq:x=lit [99,111,117,110,116]
    ·have hd:Hid (Q=true):=by show _=_;rw [HQ.out];simpa using hq
     have hq2:(x.toList == [99,111,117,110,116])=true:=by rw [hq,show (lit [99,111,117,110,116]).toList=[99,111,117,110,116] from ByteArray.toList_mk _];decide
     clear hq
     go_wp2_with fail
     go_meet
     exact ⟨by rw [hd.out],rfl⟩
    ·have hd:Hid (Q=false):=by show _=_;rw [HQ.out];simpa using hq
     have hq2:=list_ne2 hq
     clear hq
     go_wp2_with fail
     go_meet
     exact ⟨by rw [hd.out],rfl⟩
   case rest =>
   obtain ⟨rfl,rfl⟩:=hcut
   apply_assumption
   go_cut [23] from 24 to 24 (fun v23 wx=>wx=V)
   case first =>
    cases Q with
    | true =>
     have hv1:v=1:=by
      have:=of_decide_eq_true HQ.out.symm
      rw [Hv.out,one1,if_pos this]
     subst hv1
     go_wp2_with fail
     go_meet
     exact HV.out.symm
    | false =>
     have hv1:v=c.v:=by
      have:=of_decide_eq_false HQ.out.symm
      rw [Hv.out,one1,if_neg this]
     subst hv1
     go_wp2_with fail
     go_meet
     exact HV.out.symm
   case rest =>
   rw [hcut,← HX.out]
   clear hcut HV HX hX HQ c0 c1
   obtain ⟨x0,x1,_,_⟩:=two_cells F1
   obtain ⟨S,hS⟩:∃ S,S=only c.ser ks:=⟨_,rfl⟩
   have hS4:S.length≤4:=by rw [hS];have:=only_len c.ser ks;rw [← HCN.out] at this;omega
   have PO:Hid (∀ w',Below V.heap.size V w'→Calls Tryz.prog 151 #[.slice c.sa cn c.sc,.slice bo m bc] w' fun e w''=>∃ co N d,e=.returned (.slice co N d)∧w''.ownsRow w'.heap.size 88 2 (.slice co N d) N (lcells S)∧N=S.length∧Below w'.heap.size w' w''):=fun w' hb'=>by
    rw [hS];exact nonly_own c.ser ks c.sa bo cn c.sc m bc w' ((segc.below IV.bel).below hb') HCN.out (by omega) ((hkW.below IV.bel).below hb') HM.out hM
   have HD2:Hid (∀ r,putA x S v (cls cts)=r→allA x ks [] (cls l)=match r with | none=>none | some o=>allA x ks o (cls (l.drop (k+1)))):=fun r hr=>by
    have e1:putA x (only c.cl.1 ks) (one1 x c.cl.2) (cls cts)=r:=by rw [← hr,hS,Hv.out];rfl
    rw [HA.out,HD.out]
    cases r with
    | none=>exact allA_no e1
    | some o=>exact allA_yes e1
   clear hS HA HD
   go_wp2_with fail
   refine (PO.out V (Below.refl _ _)).mono ?_
   rintro e w1 ⟨so,sn,sd,rfl,ownS,hsn,b1⟩
   have I1:=IV.call b1
   have F2:=below_block b1 F1
   have segS:SegN w1 (Value.slice co N d).ownBlock so (lcells S):=segN_own ownS (fun g hg=>(own_base IV.own.own g hg).2)
   have hNl:=I1.own.len
   have hN8:N≤8:=by have:=I1.len;omega
   obtain ⟨p,hp,hbd,hcase⟩:=put_idx x S v cts I1.srt
   obtain ⟨FF,hFF⟩:∃ FF,FF=(decide (p<N) && decide (cmpS (ct cts p).ser S=0)):=⟨_,rfl⟩
   have hs8:∀ y∈cts,y.ser.length≤9223372036854775807:=fun y hy=>by
    have:=(I1.fin y.cl (List.mem_map_of_mem hy)).2.2
    have e:y.cl.1.length=y.ser.length:=rfl
    omega
   have HSN:=hide hsn
   have HNL:=hide hNl
   have PS:Calls Tryz.prog 152 #[.slice co N d,.slice so sn sd,.func (.func 153) #[] #[]] w1 fun e w'=>e=.returned (.tuple #[.int .i64 p,.bool FF])∧Below w1.heap.size w1 w' :=
    mbsc_any cts S co so N d sn sd p FF w1 I1.own.csIn segS.seg HNL.out HSN.out (by omega) hs8 (by omega) (fun q hq=>hbd q (by omega)) hFF
   have HFF:=hide hFF
   have HPS:=hide PS
   have HPP:=hide hp
   have HCS:=hide hcase
   clear x0 x1 ownS b1 F1 IV hsn hNl hs8 PS hFF PO hbd hcase hp
   go_wp2_with fail
   refine HPS.out.mono ?_
   rintro e w2 ⟨rfl,b2⟩
   have I2:=I1.call b2
   have F3:=below_block b2 F2
   have segS2:=segS.below b2
   clear HPS I1 F2 segS b2
   rcases HCS.out with ⟨h1,h2,h3⟩ | ⟨h1,h2⟩
   ·have hFt:Hid (FF=true):=by
     show _=_
     rw [HFF.out,HNL.out]
     simp [h1,h2]
    have hpN:p<N:=by rw [HNL.out];exact h1
    have hg:∃ g,co=some ⟨g,0,none⟩:=by
     rcases I2.own.own.2 with ⟨_,h⟩ | ⟨g,cp,cur,h,_⟩
     ·omega
     ·injection h with h1 _ _
      exact ⟨g,h1⟩
    obtain ⟨g,rfl⟩:=hg
    obtain ⟨q,hq⟩:∃ q,q=(ct cts p).v:=⟨_,rfl⟩
    have cq:w2.cell? ⟨g,p*2+1,none⟩=some (.int .i64 q):=by
     rw [hq]
     exact (I2.own.own.cellAt (p*2+1) (by omega)).trans (ccells_at cts p h1).2
    have fq:w2.frozen? ⟨g,p*2+1,none⟩=false:=by
     rcases I2.own.own.2 with ⟨h,_⟩ | ⟨g',cp,cur,h,_,hh,_⟩
     ·cases h
     ·injection h with h1 _ _
      injection h1 with h1
      injection h1 with h1 _ _
      subst h1
      simp [World.frozen?,hh]
    have fp:=I2.fin (ct cts p).cl (List.mem_map_of_mem (ct_mem h1))
    have bq : -MC≤q∧q≤MC:=by rw [hq];exact ⟨fp.1,fp.2.1⟩
    obtain ⟨T,hT⟩:∃ T,T=tog x q v:=⟨_,rfl⟩
    obtain ⟨R,hR⟩:∃ R,R=bnd T:=⟨_,rfl⟩
    have PT:Hid (∀ w',Calls Tryz.prog 156 #[.string x,.int .i64 q,.int .i64 v] w' fun e w''=>e=.returned (.int .i64 T)∧w''=w'):=fun w'=>by rw [hT];exact mtogether_any x q v w' bq hv2
    have PBd:Hid (∀ w',Calls Tryz.prog 155 #[.int .i64 T] w' fun e w''=>e=.returned (.tuple #[.int .i64 (ov R),.int .i64 (oe R)])∧w''=w'):=fun w'=>by rw [hR];exact mbounded_any T w'
    have HP3:Hid (putA x S v (cls cts)=R.map fun y=>cls (cts.set p (ctw (ct cts p) y))):=by
     show _=_
     rw [h3,← hq,← hT,hR]
     unfold bnd
     by_cases e:big T=true
     ·rw [if_pos e,if_pos e];rfl
     ·rw [if_neg e,if_neg e];rfl
    obtain ⟨x0,x1,_,_⟩:=two_cells F3
    have HH1:=hide h1
    have hFt2:=hFt.out
    subst hFt2
    have i2:(p:Int)<(N:Int):=by omega
    clear h1 h2 h3 HFF hq hT hR fp bq
    go_wp2_with fail
    have hnn:decide (p<N)=true:=by simp;omega
    go_quiet (first | (go_at_call 156;exact Calls.quiet_of_same (PT.out _)) | (go_at_call 155;exact Calls.quiet_of_same (PBd.out _)))
    have bel3:=I2.bel
    cases R with
    | none =>
     have HE:Hid (((allA x ks [] (cls l)).map fun c=>(⟨false,c⟩:Mn))=none):=by
      show _=_
      rw [HD2.out _ HP3.out];rfl
     obtain ⟨r0,r1,r2,r3⟩:=two_cells (below_block bel3 F0)
     have belw:Below w.heap.size w w2:=bel0.trans (bel3.mono bel0.size)
     simp only [ov,oe]
     clear HD2 HP3 I2
     go_wp2
     exact bodyPost_ret (v:=.tuple #[.agg #[.bool false,.slice none 0 0],.int .i64 3]) (by simp [results,Tryz.results110,go_sem,r0,r1]) rfl ⟨.inl ⟨HE.out,rfl⟩,((below_drewN belw _).setCell (Nat.le_refl _) _).setCell (Nat.le_refl _) _⟩
    | some y =>
     have HP4:Hid (putA x S v (cls cts)=some (cls (cts.set p (ctw (ct cts p) y)))):=HP3.out
     have HA2:Hid (allA x ks [] (cls l)=allA x ks (cls (cts.set p (ctw (ct cts p) y))) (cls (l.drop (k+1)))):=HD2.out _ HP4.out
     have pf:=put_fine hS4 hv2 I2.fin HP4.out
     have ps:=put_srt x S v (cls cts) I2.srt _ HP4.out
     have bd:Below w2.heap.size w2 (w2.drewN nq):=below_drewN (Below.refl _ _) nq
     have I3:AI W ((w2.drewN nq).setCell ⟨g,p*2+1,none⟩ (.int .i64 y)) (some ⟨g,0,none⟩) N d (k+1) (cts.set p (ctw (ct cts p) y)) :=
      ⟨(below_drewN bel3 nq).setCell (own_base I2.own.own g rfl).1 _,(I2.own.below bd).put HH1.out y,ps.1,pf.1,by have:=I2.len;omega⟩
     simp only [ov,oe]
     clear HD2 HP3 HP4 I2 pf ps
     go_wp2
     go_roundw
     case rel=>exact ⟨k+1,N,d,_,_,by omega,by go_num,rfl,I3,HA2⟩
     case measure=>simp [intOf];omega
   ·have hFf:Hid (FF=false):=by
     show _=_
     rw [HFF.out,HNL.out]
     simp only [Bool.and_eq_false_iff,decide_eq_false_iff_not]
     by_cases e:p<cts.length
     ·right;intro e2;exact h1 ⟨e,e2⟩
     ·left;exact e
    obtain ⟨x0,x1,_,_⟩:=two_cells F3
    have HP2:=hide (h2 ⟨S,v,so,sd⟩ rfl)
    have hw2:=I2.bel.size
    have hlt2:∀ g,(Value.slice co N d).ownBlock=some g→g<w2.heap.size:=fun g hg=>(own_base I2.own.own g hg).2
    have belB:Below w2.heap.size w2 (w2.alloc (.cells #[.slice so sn sd,.int .i64 v] 79)):=(Below.refl _ _).alloc (Nat.le_refl _) _
    have IB:=I2.call belB
    have FB:(w2.alloc (.cells #[.slice so sn sd,.int .i64 v] 79)).heap[w2.heap.size]?=some (.cells #[.slice so sn sd,.int .i64 v] 79 (0,0)):=heap_alloc_new _ _
    have PI:=hide (ins_any cts ⟨S,v,so,sd⟩ W.heap.size N d p w2.heap.size sn co _ IB.own (by rw [HNL.out];exact HPP.out) hN8 IB.bel.size FB HSN.out (fun e=>by have:=hlt2 _ e;omega) (segS2.below belB))
    have hFf2:=hFf.out
    subst hFf2
    clear h1 h2 HFF
    go_wp2_with fail
    refine PI.out.mono ?_
    rintro e w3 ⟨co',d',rfl,own3,gr3⟩
    have belC:Below W.heap.size W w3:=IB.bel.grown gr3 IB.bel.size (fun j hj=>(own_base IB.own.own j hj).1)
    have pf:=put_fine hS4 hv2 IB.fin HP2.out
    have ps:=put_srt x S v (cls cts) IB.srt _ HP2.out
    have I3:AI W w3 co' (N+1) d' (k+1) (cts.take p++⟨S,v,so,sd⟩::cts.drop p):=⟨belC,own3,ps.1,pf.1,by have:=IB.len;omega⟩
    have HA2:Hid (allA x ks [] (cls l)=allA x ks (cls (cts.take p++⟨S,v,so,sd⟩::cts.drop p)) (cls (l.drop (k+1)))):=HD2.out _ HP2.out
    clear PI own3 gr3 belC pf ps IB I2 belB FB x0 x1 F3 HD2 HP2
    go_wp2
    go_roundw
    case rel=>exact ⟨k+1,N+1,d',co',_,by omega,by go_num,rfl,I3,HA2⟩
    case measure=>simp [intOf];omega
  ·have he:k=n:=by omega
   subst he
   have hd:l.drop k=[]:=List.drop_eq_nil_of_le (by rw [← HN.out];exact Nat.le_refl _)
   have HE:Hid (((allA x ks [] (cls l)).map fun c=>(⟨false,c⟩:Mn))=some ⟨false,cls cts⟩):=by
    show _=_
    rw [HA.out,hd];rfl
   have bel:=I.bel
   have hlen:=hide I.own.len
   have own:=I.own
   obtain ⟨r0,r1,r2,r3⟩:=two_cells (below_block bel F0)
   clear HA hd I HN
   go_wp2
   refine bodyPost_ret (v:=.tuple #[.agg #[.bool false,.slice co N d],.int .i64 0]) (by simp [results,Tryz.results110,go_sem,r0,r1]) rfl ?_
   have hw0:w.heap.size<W.heap.size:=lt_of_block F0
   have belw:Below w.heap.size w wr:=bel0.trans (bel.mono bel0.size)
   have bel2:Below w.heap.size w ((wr.setCell ⟨w.heap.size,0,none⟩ (.bool false)).setCell ⟨w.heap.size,1,none⟩ (.slice co N d)):=(belw.setCell (Nat.le_refl _) _).setCell (Nat.le_refl _) _
   have own2:=ownsRow_setCell_below (ownsRow_setCell_below own.own (a:=⟨w.heap.size,0,none⟩) hw0 (.bool false)) (a:=⟨w.heap.size,1,none⟩) hw0 (.slice co N d)
   obtain ⟨ao',c',hv,hseg,_⟩:=own_open own2
   simp only [Value.slice.injEq] at hv
   obtain ⟨rfl,-,rfl⟩:=hv
   have FB:=below_block bel F0
   refine ⟨.inr ⟨false,cts,co,N,d,rfl,HE.out,hlen.out,⟨hseg,fun c hc=>?_,own_typ own2,fun c hc=>(own.ser c hc).typ.imp id fun h=>(h.set _ _).set _ _⟩⟩,bel2⟩
   have h1:=seg_far (own.ser c hc).seg FB (o:=0) (.bool false)
   have FC:(wr.setCell ⟨w.heap.size,0,none⟩ (.bool false)).heap[w.heap.size]?=some (.cells #[.bool false,.slice none 0 0] 131 (0,0)):=by simp [World.setCell,Array.getElem?_modify,FB]
   exact seg_far h1 FC (.slice co N d)
end Go.Proofs.YtoldmigappbjcaaGreatDoor
namespace Go.GrainU
open Go.RowKit
structure Gd (m:Mn):Prop where
 fine:∀ c∈m.cs,Fine c
 len:m.cs.length≤8
 num:m.num=true→0<m.cs.length
theorem winX_len (x:Ln) (h:Hd) (time:Int):(winX x h time).length≤1:=by
 unfold winX
 split
 ·split <;> simp
 ·simp
theorem winC_len:∀ (l:List Ln) (h:Hd) (time:Int),(winC l h time).length≤l.length
 | [],_,_=>by simp [winC]
 | x::r,h,time=>by
  have h1:=winX_len x h time
  have h2:=winC_len r h time
  simp only [winC,List.length_append,List.length_cons]
  omega
theorem Grain_win_val {l:List (Int×Int)} (h:Grain.Right l) (a b:Int):∀ x∈Grain.win l a b,-1000000000≤x.2∧x.2≤1000000000:=by
 intro y hy
 have hy':=(List.mem_filter.1 hy).1
 obtain ⟨q,hq,rfl⟩:=List.mem_iff_getElem.1 hy'
 have:=h.rng q hq
 simp [Grain.vl,List.getD,List.getElem?_eq_getElem hq] at this
 omega
theorem winV_bd {x:Ln} (h:Grain.Right x.2) (hd:Hd) (time:Int) : -W1≤(winV x hd time).1∧(winV x hd time).1≤W1:=by
 have hl:(Grain.win x.2 (time-hd.range) time).length≤500:=Nat.le_trans (Grain.win_len _ _ _) h.few
 exact valP_bd (of_ok (Grain_win_val h _ _) hl) (by omega) (by omega) _
theorem winC_fine:∀ (l:List Ln),(∀ x∈l,x.1.length≤4∧Grain.Right x.2)→∀ (h:Hd) (time:Int),∀ c∈winC l h time,-W1≤c.2∧c.2≤W1∧c.1.length≤4
 | [],_,_,_,c,hc=>by simp [winC] at hc
 | x::r,hl,h,time,c,hc=>by
  simp only [winC,List.mem_append] at hc
  rcases hc with e | e
  ·have hx:=hl x (by simp)
   unfold winX at e
   split at e
   ·split at e
    ·simp at e
     rw [e]
     exact ⟨(winV_bd hx.2 h time).1,(winV_bd hx.2 h time).2,hx.1⟩
    ·simp at e
   ·simp at e
  ·exact winC_fine r (fun y hy=>hl y (by simp [hy])) h time c e
theorem W1_MC:W1≤MC:=by decide
theorem gd_win {l:List Ln} (hl:∀ x∈l,x.1.length≤4∧Grain.Right x.2) (h8:l.length≤8) (h:Hd) (time:Int):Gd ⟨false,winC l h time⟩ :=
 ⟨fun c hc=>by
  have:=winC_fine l hl h time c hc
  have:=W1_MC
  exact ⟨by omega,by omega,by omega⟩,Nat.le_trans (winC_len l h time) h8,fun e=>by cases e⟩
theorem allA_gd {w:ByteArray} {ks:List ByteArray}:∀ (l out:List Cl),(∀ c∈l,Fine c)→(∀ c∈out,Fine c)→∀ r,allA w ks out l=some r→(∀ c∈r,Fine c)∧r.length≤out.length+l.length
 | [],out,_,ho,r,h=>by
  simp [allA] at h
  subst h
  exact ⟨ho,by simp⟩
 | c::q,out,hl,ho,r,h=>by
  have fc:=hl c (by simp)
  have hv : -MC≤one1 w c.2∧one1 w c.2≤MC:=by
   unfold one1
   split
   ·simp [MC]
   ·exact ⟨fc.1,fc.2.1⟩
  have hs:(only c.1 ks).length≤4:=Nat.le_trans (only_len c.1 ks) fc.2.2
  rw [allA] at h
  cases hp:putA w (only c.1 ks) (one1 w c.2) out with
  | none=>rw [hp] at h;cases h
  | some o =>
   rw [hp] at h
   obtain ⟨i1,i2⟩:=put_fine hs hv ho hp
   obtain ⟨j1,j2⟩:=allA_gd q o (fun x hx=>hl x (by simp [hx])) i1 r h
   exact ⟨j1,by simp;omega⟩
theorem binA_gd {a b:Mn} {w:ByteArray} (fb:∀ c∈b.cs,Fine c):∀ (l acc:List Cl),(∀ c∈l,Fine c)→(∀ c∈acc,Fine c)→∀ r,binA a b w acc l=some r→(∀ c∈r,Fine c)∧r.length≤acc.length+l.length∧acc.length≤r.length
 | [],acc,_,ha,r,h=>by
  simp [binA] at h
  subst h
  exact ⟨ha,by simp,Nat.le_refl _⟩
 | c::q,acc,hl,ha,r,h=>by
  have fc:=hl c (by simp)
  have hq:∀ x∈q,Fine x:=fun x hx=>hl x (by simp [hx])
  cases h1:atM a c.1 with
  | none =>
   rw [binA_no (.inl h1)] at h
   obtain ⟨j1,j2,j3⟩:=binA_gd fb q acc hq ha r h
   exact ⟨j1,by simp;omega,j3⟩
  | some x =>
   cases h2:atM b c.1 with
   | none =>
    rw [binA_no (.inr h2)] at h
    obtain ⟨j1,j2,j3⟩:=binA_gd fb q acc hq ha r h
    exact ⟨j1,by simp;omega,j3⟩
   | some y =>
    cases h3:wkd w x y with
    | none=>rw [binA_bad h1 h2 h3] at h;cases h
    | some v =>
     rw [binA_yes h1 h2 h3] at h
     have bv:=wkd_bd (atM_fine fb h2) h3
     obtain ⟨j1,j2,j3⟩:=binA_gd fb q (acc++[(c.1,v)]) hq (fun z hz=>by
      rcases List.mem_append.1 hz with e | e
      ·exact ha z e
      ·simp at e;rw [e];exact ⟨bv.1,bv.2,fc.2.2⟩) r h
     exact ⟨j1,by simp at j2 ⊢;omega,by simp at j3;omega⟩
theorem gd_all {w:ByteArray} {ks:List ByteArray} {m r:Mn} (g:Gd m) (h:((allA w ks [] m.cs).map fun c=>(⟨false,c⟩:Mn))=some r):Gd r:=by
 cases hq:allA w ks [] m.cs with
 | none=>rw [hq] at h;cases h
 | some q =>
  rw [hq] at h
  simp at h
  subst h
  obtain ⟨i1,i2⟩:=allA_gd m.cs [] g.fine (fun c hc=>by cases hc) q hq
  exact ⟨i1,by have:=g.len;simp at i2 ⊢;omega,fun e=>by cases e⟩
theorem gd_bin {w:ByteArray} {a b r:Mn} (ga:Gd a) (gb:Gd b) (h:binM a b w=some r):Gd r:=by
 unfold binM at h
 cases hq:binA a b w [] (fromM a b).cs with
 | none=>rw [hq] at h;cases h
 | some q =>
  rw [hq] at h
  simp at h
  subst h
  have gf:Gd (fromM a b):=by unfold fromM;split <;> assumption
  obtain ⟨i1,i2,_⟩:=binA_gd gb.fine (fromM a b).cs [] gf.fine (fun c hc=>by cases hc) q hq
  refine ⟨i1,by have:=gf.len;simp at i2 ⊢;omega,fun e=>?_⟩
  have hn:=gf.num e
  have ha:a.num=true:=by
   unfold fromM at e
   split at e
   ·assumption
   ·exact e
  have hb:b.num=true:=by
   unfold fromM at e
   rw [if_pos ha] at e
   exact e
  cases hc:(fromM a b).cs with
  | nil=>rw [hc] at hn;simp at hn
  | cons c s =>
   rw [hc] at hq
   have h1:atM a c.1=some (cl0 a.cs):=by simp [atM,ha]
   have h2:atM b c.1=some (cl0 b.cs):=by simp [atM,hb]
   cases h3:wkd w (cl0 a.cs) (cl0 b.cs) with
   | none=>rw [binA_bad h1 h2 h3] at hq;cases hq
   | some v =>
    rw [binA_yes h1 h2 h3] at hq
    have fc:Fine c:=by
     have:=(show Gd (fromM a b) from by unfold fromM;split <;> assumption).fine c (by rw [hc];simp)
     exact this
    have bv:=wkd_bd (atM_fine gb.fine h2) h3
    have fs:∀ x∈s,Fine x:=fun x hx=>(show Gd (fromM a b) from by unfold fromM;split <;> assumption).fine x (by rw [hc];simp [hx])
    obtain ⟨_,_,j3⟩:=binA_gd gb.fine s ([]++[(c.1,v)]) fs (fun z hz=>by simp at hz;rw [hz];exact ⟨bv.1,bv.2,fc.2.2⟩) q hq
    simp at j3
    exact j3
open Go.RowKit
theorem segc_far {w:World} {ao:Option Addr} {s:List CT} {B t o:Nat} {f:Bool} {a:Option Addr} {n c:Nat} {fr:Nat×Nat} (h:Seg w ao (ccells s)) (hB:w.heap[B]?=some (.cells #[.bool f,.slice a n c] t fr)) (v:Value):Seg (w.setCell ⟨B,o,none⟩ v) ao (ccells s):=by
 rcases h with h | ⟨b,off,rfl,h⟩
 ·exact .inl h
 ·cases s with
  | nil=>exact .inl rfl
  | cons x r =>
   have h0:=h 0 (by simp [ccells])
   have h1:=h 1 (by simp [ccells])
   have hne:b≠B:=by
    intro e
    subst e
    simp [World.cell?,hB,ccells] at h0 h1
    match off,h0,h1 with
    | 0,h0,h1=>simp at h0
    | 1,h0,h1=>simp at h1
    | q+2,h0,h1=>simp at h0
   refine .inr ⟨b,off,rfl,fun j hj=>?_⟩
   rw [cell_of_block (setCell_far hne)]
   exact h j hj
theorem CsIn.far {w:World} {co:Option Addr} {s:List CT} {B t o:Nat} {f:Bool} {a:Option Addr} {n c:Nat} {fr:Nat×Nat} (h:CsIn w co s) (hB:w.heap[B]?=some (.cells #[.bool f,.slice a n c] t fr)) (v:Value):CsIn (w.setCell ⟨B,o,none⟩ v) co s :=
 ⟨segc_far h.seg hB v,fun x hx=>seg_far (h.ser x hx) hB v,h.ty.imp id (·.set _ _),fun x hx=>(h.tl x hx).imp id (·.set _ _)⟩
theorem fst_set {w:World} {B:Nat} {x y:Value} {t:TypeId} (h:w.heap[B]?=some (.cells #[x,y] t (0,0))) (q:Value):(w.setCell ⟨B,0,none⟩ q).heap[B]?=some (.cells #[q,y] t (0,0)):=by
 simp [World.setCell,Array.getElem?_modify,h]
theorem err_done {w:World} {R:Nat} {t:TypeId} (h:w.heap[R]?=some (.cells #[.bool false,.slice none 0 0] t (0,0))) (o:Obj) :
  (((w.setCell ⟨R,0,none⟩ (.bool false)).setCell ⟨R,1,none⟩ (.slice none 0 0)).alloc o).cell? ⟨R,0,none⟩=some (.bool false)∧(((w.setCell ⟨R,0,none⟩ (.bool false)).setCell ⟨R,1,none⟩ (.slice none 0 0)).alloc o).cell? ⟨R,1,none⟩=some (.slice none 0 0):=by
 have h1:=two_set h (.bool false) (.slice none 0 0)
 have h2:(((w.setCell ⟨R,0,none⟩ (.bool false)).setCell ⟨R,1,none⟩ (.slice none 0 0)).alloc o).heap[R]?=some (.cells #[.bool false,.slice none 0 0] t (0,0)):=by
  rw [Below.heap_alloc _ _ _ (lt_of_block h1)];exact h1
 obtain ⟨a,b,_,_⟩:=two_cells h2
 exact ⟨a,b⟩
theorem CsIn.stored {w:World} {co:Option Addr} {s:List CT} {B t:Nat} (h:CsIn w co s) (hB:w.heap[B]?=some (.cells #[.bool false,.slice none 0 0] t (0,0))) (f:Bool) (v:Value):CsIn ((w.setCell ⟨B,0,none⟩ (.bool f)).setCell ⟨B,1,none⟩ v) co s :=
 (h.far hB (.bool f)).far (fst_set hB (.bool f)) v
theorem evg_gd {f:Hd→Except Int (List Cl)} (hf:∀ h,winBad h=0→∀ c,f h=.ok c→Gd ⟨false,c⟩):∀ x:Ex,Rt x→∀ m,evG f x=.ok m→Gd m:=by
 refine Ex.ind ?_
 intro h kids ih hr m hm
 obtain ⟨ha,hk⟩:=hr.parts
 rcases alone_cases ha with ⟨e,k0,n0,n1⟩ | ⟨e,k0,wb⟩ | ⟨e,k0,ab⟩ | ⟨e,k0,sg⟩
 ·rw [evg_num e] at hm
  simp at hm
  subst hm
  refine ⟨fun c hc=>?_,by simp,fun _=>by simp⟩
  simp at hc
  rw [hc]
  exact ⟨by simp [MC];omega,by simp [MC];omega,by simp⟩
 ·rw [evg_win e] at hm
  cases hq:f h with
  | error x=>rw [hq] at hm;cases hm
  | ok c =>
   rw [hq] at hm
   simp at hm
   subst hm
   exact hf h wb c hq
 ·match kids,k0 with
  | [k],_ =>
   rw [evg_all e] at hm
   cases hq:evG f k with
   | error x=>rw [hq] at hm;cases hm
   | ok q =>
    rw [hq] at hm
    simp only [exb] at hm
    cases hp:(allA h.word h.bs [] q.cs).map fun c=>(⟨false,c⟩:Mn) with
    | none=>rw [hp] at hm;cases hm
    | some p =>
     rw [hp] at hm
     simp only [exc] at hm
     injection hm with hm
     subst hm
     exact gd_all (ih k (by simp) (hk k (by simp)) q hq) hp
 ·match kids,k0 with
  | [a,b],_ =>
   rw [evg_bin e] at hm
   cases hq:evG f a with
   | error x=>rw [hq] at hm;cases hm
   | ok q =>
    rw [hq] at hm
    cases hq':evG f b with
    | error x=>rw [hq'] at hm;cases hm
    | ok q' =>
     rw [hq'] at hm
     simp only [exb] at hm
     cases hp:binM q q' h.word with
     | none=>rw [hp] at hm;cases hm
     | some p =>
      rw [hp] at hm
      simp only [exc] at hm
      injection hm with hm
      subst hm
      exact gd_bin (ih a (by simp) (hk a (by simp)) q hq) (ih b (by simp) (hk b (by simp)) q' hq') hp
structure Beside (r:Option Nat) (N:Nat) (I:Nat→World→Prop):Prop where
 row:∀ C,r=some C→C<N
 kept:∀ c w w',I c w→Below N w w'→I c w'
 solo:∀ c w,I c w→Solo r w
def GPost (O : Except Int Mn) (I : Nat → World → Prop) (r : Option Nat) (c k : Nat) (w : World) (e : Ending) (w' : World) : Prop :=
  ((∃ x : Int, x ≠ 0 ∧ O = .error x ∧ e = .returned (.tuple #[.agg #[.bool false, .slice none 0 0], .int .i64 x])) ∨
   ∃ nb cts co M d, e = .returned (.tuple #[.agg #[.bool nb, .slice co M d], .int .i64 0]) ∧ O = .ok ⟨nb, cls cts⟩ ∧ M = cts.length ∧ CsIn w' co cts ∧ I (c + k) w') ∧ Bel r w.heap.size w w'
def wopt (x:Except Int (List Cl)):Except Int Mn:=match x with | .error x=>.error x | .ok c=>.ok ⟨false,c⟩
theorem bel_err {r:Option Nat} {w w1:World} {R:Nat} (bw:Bel r w.heap.size w w1) (hR:w.heap.size≤R) (o:Obj):Bel r w.heap.size w (((w1.setCell ⟨R,0,none⟩ (.bool false)).setCell ⟨R,1,none⟩ (.slice none 0 0)).alloc o):=by
 have b2:Bel r w.heap.size w ((w1.setCell ⟨R,0,none⟩ (.bool false)).setCell ⟨R,1,none⟩ (.slice none 0 0)):=(bw.setCell hR _).setCell hR _
 exact b2.alloc b2.size _
end Go.GrainU
namespace Go.Proofs.YtoldmigappbjcaaGreatDoor
open Go.RowKit Go.GrainU
set_option maxRecDepth 100000 in
set_option maxHeartbeats 8000000 in
theorem gcomes_any (f:Hd→Except Int (List Cl)) (kf:Hd→Nat) (I:Nat→World→Prop) (r:Option Nat) (Nb B1 B2 B3:Nat) (hB:Beside r Nb I) (hf:∀ h,winBad h=0→∀ c,f h=.ok c→Gd ⟨false,c⟩)
  (hw:∀ (t:ET) (w:World) (c:Nat),I c w→Nb≤w.heap.size→t.In w→winBad t.hd=0→Calls Tryz.prog 68 #[eval t,.pointer (some ⟨B1,0,none⟩),.pointer (some ⟨B2,0,none⟩),.pointer (some ⟨B3,0,none⟩)] w fun e w'=>GPost (wopt (f t.hd)) I r c (kf t.hd) w e w') :
  ∀ t:ET,∀ (w:World) (c:Nat),I c w→Nb≤w.heap.size→t.In w→Rt t.ex →
  Calls Tryz.prog 67 #[eval t,.func (.func 68) #[] #[.pointer (some ⟨B1,0,none⟩),.pointer (some ⟨B2,0,none⟩),.pointer (some ⟨B3,0,none⟩)]] w fun e w'=>GPost (evG f t.ex) I r c (costG kf t.ex) w e w':=by
 have HGD:=hide (evg_gd hf)
 have HB:=hide hB
 clear hf hB
 refine ET.ind ?_
 intro h s kids ih w cc hI hNw hin hrt
 have HSo:=hide (HB.out.solo cc w hI)
 have P1:=hide (fun w' c' (hb:Below w.heap.size w w') (h':I c' w') (hn':Nb≤w'.heap.size) h0=>hw (.node h s kids) w' c' h' hn' (ET.In.below hb _ hin) h0)
 have HKp:=hide (fun c' w1 w2 (h1:I c' w1) (h2:Below w.heap.size w1 w2)=>HB.out.kept c' w1 w2 h1 (h2.mono hNw))
 have HI:=hide hI
 have HNw:=hide hNw
 have HIN:=hide hin
 have HRT:=hide hrt
 clear hI hrt hNw hw
 obtain ⟨kd,en,rg,wd,ms,bs⟩:=h
 obtain ⟨ma,mc,ba,bc,ka,kc⟩:=s
 simp only [ET.In] at hin
 obtain ⟨⟨sm,sb,sk⟩,⟨lm,lb,lk,-⟩,hkin⟩:=hin
 obtain ⟨halone,hkr⟩:=Rt.parts (show Rt (.mk ⟨kd,en,rg,wd,ms,bs⟩ (exL kids)) from HRT.out)
 rw [exL_length] at halone
 unfold eval at P1 ⊢
 simp only [ET.hd,ET.sp,ET.kids] at P1 ⊢
 obtain ⟨ml,hml⟩:∃ ml,ml=ms.length:=⟨_,rfl⟩
 obtain ⟨bl,hbl⟩:∃ bl,bl=bs.length:=⟨_,rfl⟩
 obtain ⟨kl,hkl⟩:∃ kl,kl=kids.length:=⟨_,rfl⟩
 rw [← hml,← hbl,← hkl] at P1 ⊢
 obtain ⟨W,hW⟩:∃ W,W=(w.alloc (.cells #[.int .i64 kd,.int .i64 en,.int .i64 rg,.string wd,.slice ma ml mc,.slice ba bl bc,.slice ka kl kc] 41)).alloc (.cells #[.bool false,.slice none 0 0] 131):=⟨_,rfl⟩
 have bel0:Below w.heap.size w W:=by rw [hW];exact ((Below.refl _ _).alloc (Nat.le_refl _) _).alloc (by simp) _
 have F0:W.heap[w.heap.size]?=some (.cells #[.int .i64 kd,.int .i64 en,.int .i64 rg,.string wd,.slice ma ml mc,.slice ba bl bc,.slice ka kl kc] 41 (0,0)):=by rw [hW,Below.heap_alloc _ _ _ (by simp)];exact heap_alloc_new w _
 have G0:W.heap[w.heap.size+1]?=some (.cells #[.bool false,.slice none 0 0] 131 (0,0)):=by
  have:=heap_alloc_new (w.alloc (.cells #[.int .i64 kd,.int .i64 en,.int .i64 rg,.string wd,.slice ma ml mc,.slice ba bl bc,.slice ka kl kc] 41)) (.cells #[.bool false,.slice none 0 0] 131)
  rw [hW];simpa using this
 have HW:=hide hW
 have HKL:=hide hkl
 have HML:=hide hml
 have HBL:=hide hbl
 clear hml hbl hkl hW
 rcases alone_cases halone with ⟨e,k0,n0,n1⟩ | ⟨e,k0,wb⟩ | ⟨e,k0,ab⟩ | ⟨e,k0,sg⟩
 ·have HE:Hid (evG f (ET.node ⟨kd,en,rg,wd,ms,bs⟩ ⟨ma,mc,ba,bc,ka,kc⟩ kids).ex=.ok ⟨true,[([],en)]⟩):=evg_num e
  have HK:Hid (costG kf (ET.node ⟨kd,en,rg,wd,ms,bs⟩ ⟨ma,mc,ba,bc,ka,kc⟩ kids).ex=0):=costg_num e
  simp only at e
  subst e
  rw [HE.out,HK.out]
  clear HE HK ih P1 HIN HRT F0 G0 halone
  go_enter Tryz.func67,Tryz.ntmps67
  go_wp2
  refine bodyPost_ret (v:=.tuple #[.agg #[.bool true,.slice (some ⟨w.heap.size+1+1,0,none⟩) 1 1],.int .i64 0]) (by simp [results,Tryz.results67,go_sem]) rfl ⟨.inr ⟨true,[⟨[],en,none,0⟩],some ⟨w.heap.size+1+1,0,none⟩,1,1,rfl,rfl,rfl,⟨?_,?_,.inr ⟨_,_,#[.slice none 0 0,.int .i64 en],(0,0),rfl,?_⟩,fun c hc=>.inl (by simp at hc;rw [hc];rfl)⟩,HKp.out _ _ _ HI.out ?_⟩,?_⟩
  ·have:=seg_new ((w.alloc (.cells #[.int .i64 1,.int .i64 en,.int .i64 rg,.string wd,.slice ma ml mc,.slice ba bl bc,.slice ka kl kc] 41)).alloc (.cells #[.bool true,.slice (some ⟨w.heap.size+1+1,0,none⟩) 1 1] 131)) #[.slice none 0 0,.int .i64 en] 79
   simpa [ccells] using this
  ·intro c hc
   simp at hc
   rw [hc]
   exact .inl rfl
  ·have:=heap_alloc_new ((w.alloc (.cells #[.int .i64 1,.int .i64 en,.int .i64 rg,.string wd,.slice ma ml mc,.slice ba bl bc,.slice ka kl kc] 41)).alloc (.cells #[.bool true,.slice (some ⟨w.heap.size+1+1,0,none⟩) 1 1] 131)) (.cells #[.slice none 0 0,.int .i64 en] 79)
   simpa using this
  ·exact (((Below.refl _ _).alloc (Nat.le_refl _) _).alloc (by simp) _).alloc (by simp;omega) _
  ·exact Bel.of ((((Below.refl _ _).alloc (Nat.le_refl _) _).alloc (by simp) _).alloc (by simp;omega) _) r
 ·have HE:Hid (evG f (ET.node ⟨kd,en,rg,wd,ms,bs⟩ ⟨ma,mc,ba,bc,ka,kc⟩ kids).ex=wopt (f ⟨kd,en,rg,wd,ms,bs⟩)):=evg_win e
  have HK:Hid (costG kf (ET.node ⟨kd,en,rg,wd,ms,bs⟩ ⟨ma,mc,ba,bc,ka,kc⟩ kids).ex=kf ⟨kd,en,rg,wd,ms,bs⟩):=costg_win e
  have P2:=hide (P1.out W cc bel0 (HKp.out _ _ _ HI.out bel0) (Nat.le_trans HNw.out bel0.size) wb)
  generalize hRR:wopt (f ⟨kd,en,rg,wd,ms,bs⟩)=RR at P2 HE
  generalize hKK:kf ⟨kd,en,rg,wd,ms,bs⟩=KK at P2 HK
  simp only at e
  subst e
  rw [HE.out,HK.out]
  clear HE HK ih P1 HIN HRT halone hRR hKK
  obtain ⟨p0,p1,p2,p3,p4,p5,p6⟩:=seven_cells F0
  go_enter Tryz.func67,Tryz.ntmps67
  go_wp2_with fail
  rw [← HW.out]
  refine P2.out.mono ?_
  rintro e w1 ⟨hp,b1⟩
  have G1:=bel_block b1 HB.out.row (Nat.le_trans HNw.out (Nat.le_succ _)) G0
  obtain ⟨t0,t1,t2,t3⟩:=two_cells G1
  have bw:Bel r w.heap.size w w1:=(Bel.of bel0 r).trans (b1.mono bel0.size)
  have HP:=hide hp
  clear hp P2 p0 p1 p2 p3 p4 p5 p6
  rcases HP.out with ⟨x,hx,ho,he⟩ | ⟨nb2,cts2,co2,N2,d2,he,ho,hN,hC,hI2⟩
  ·rw [he]
   have HE3:=hide ho
   have HX:=hide hx
   clear HP ho he hx
   go_wp2
   exact bodyPost_ret (v:=.tuple #[.agg #[.bool false,.slice none 0 0],.int .i64 x]) (by simp [results,Tryz.results67,go_sem,t0,t1]) rfl ⟨.inl ⟨x,HX.out,HE3.out,rfl⟩,(bw.setCell (by show w.heap.size≤w.heap.size+1;omega) _).setCell (by show w.heap.size≤w.heap.size+1;omega) _⟩
  ·rw [he]
   have HE3:=hide ho
   have HN2:=hide hN
   have HI2:=hide hI2
   clear HP ho he hN hI2
   go_wp2
   exact bodyPost_ret (v:=.tuple #[.agg #[.bool nb2,.slice co2 N2 d2],.int .i64 0]) (by simp [results,Tryz.results67,go_sem,t0,t1]) rfl ⟨.inr ⟨nb2,cts2,co2,N2,d2,rfl,HE3.out,HN2.out,hC.stored G1 nb2 _,HKp.out _ _ _ HI2.out (((Below.refl _ _).setCell (by show w.heap.size≤w.heap.size+1;omega) _).setCell (by show w.heap.size≤w.heap.size+1;omega) _)⟩,(bw.setCell (by show w.heap.size≤w.heap.size+1;omega) _).setCell (by show w.heap.size≤w.heap.size+1;omega) _⟩
 ·match kids,k0,HKL,sk,hkin,hkr,ih,HRT with
  | [k],_,HKL,sk,hkin,hkr,ih,HRT =>
   have HE:Hid (evG f (ET.node ⟨kd,en,rg,wd,ms,bs⟩ ⟨ma,mc,ba,bc,ka,kc⟩ [k]).ex=exb (evG f k.ex) fun m=>exc ((allA wd bs [] m.cs).map fun c=>⟨false,c⟩)):=evg_all e
   have HK:Hid (costG kf (ET.node ⟨kd,en,rg,wd,ms,bs⟩ ⟨ma,mc,ba,bc,ka,kc⟩ [k]).ex=costG kf k.ex):=costg_all e
   have hk1:kl=1:=by rw [HKL.out];rfl
   obtain ⟨b,off,rfl,hb,hcell⟩:=seg_expr sk (k:=0) (by simp)
   have hc7:Cells7 w b off k:=by simpa using hcell 0 (by simp)
   obtain ⟨c0,c1,c2,c3,c4,c5,c6⟩:=hc7
   have PI:=hide (fun w' (hb:Below w.heap.size w w')=>ih k (by simp) w' cc (HKp.out _ _ _ HI.out hb) (Nat.le_trans HNw.out hb.size) (ET.In.below hb k (inL_mem hkin k (by simp))) (hkr k.ex (by simp [exL])))
   generalize hev:evG f k.ex=O at PI HE
   generalize hck:costG kf k.ex=K1 at PI HK
   have HO:=hide hev
   have rk:=hide (hkr k.ex (by simp [exL]))
   simp only at e
   subst e
   subst hk1
   rw [HE.out,HK.out]
   clear ih hev hck HIN HRT halone P1 hkr hkin sk HK
   unfold eval at PI
   obtain ⟨RES,hRES⟩:∃ RES,RES=exb O fun m=>exc ((allA wd bs [] m.cs).map fun c=>(⟨false,c⟩:Mn)):=⟨_,rfl⟩
   rw [← hRES]
   have HRES:=hide hRES
   clear hRES
   go_enter Tryz.func67,Tryz.ntmps67
   go_wp2_with fail
   rw [← HW.out]
   refine (PI.out W bel0).mono ?_
   rintro e w1 ⟨hp,b1⟩
   have G1:=bel_block b1 HB.out.row (Nat.le_trans HNw.out (Nat.le_succ _)) G0
   have F1:=bel_block b1 HB.out.row HNw.out F0
   have bw:Bel r w.heap.size w w1:=(Bel.of bel0 r).trans (b1.mono bel0.size)
   have HP:=hide hp
   clear hp c0 c1 c2 c3 c4 c5 c6 PI
   obtain ⟨t0,t1,t2,t3⟩:=two_cells G1
   rcases HP.out with ⟨x,hx,ho,he⟩ | ⟨nb,cts,co,N,d,he,ho,hN,hC,hI1⟩
   ·rw [he]
    have HE2:Hid (RES=.error x):=by show _=_;rw [HRES.out,ho];rfl
    have HX:=hide hx
    have hxb:(x != 0)=true:=by simpa using hx
    clear hx
    have l1:w.heap.size+1<w1.heap.size:=lt_of_block G1
    clear HP ho HRES HE he HO
    go_wp2
    exact bodyPost_ret (v:=.tuple #[.agg #[.bool false,.slice none 0 0],.int .i64 x]) (by simp [results,Tryz.results67,go_sem,(err_done G1 (.cells #[.bool false,.slice none 0 0] 131)).1,(err_done G1 (.cells #[.bool false,.slice none 0 0] 131)).2]) rfl ⟨.inl ⟨x,HX.out,HE2.out,rfl⟩,bel_err bw (by omega) _⟩
   ·rw [he]
    have HE2:Hid (RES=exc ((allA wd bs [] (cls cts)).map fun c=>(⟨false,c⟩:Mn))):=by show _=_;rw [HRES.out,ho];rfl
    have gd:=HGD.out k.ex rk.out ⟨nb,cls cts⟩ (HO.out.trans ho)
    obtain ⟨V,hV⟩:∃ V,V=w1.alloc (.cells #[.bool nb,.slice co N d] 131):=⟨_,rfl⟩
    have bV:Below w1.heap.size w1 V:=by rw [hV];exact (Below.refl _ _).alloc (Nat.le_refl _) _
    have hN8:N≤8:=by rw [hN,← cls_len];exact gd.len
    have PAl:=hide (mall_any cts bs wd co ba N d bl bc V (hC.below bV) ((sb.bel (wordy_w _) HSo.out bw).below bV) hN HBL.out (by rw [HBL.out];omega) gd.fine hN8)
    have HV:=hide hV
    obtain ⟨p0,p1,p2,p3,p4,p5,p6⟩:=seven_cells F1
    have l0:w.heap.size<w1.heap.size:=lt_of_block F1
    have l1:w.heap.size+1<w1.heap.size:=lt_of_block G1
    have G2:=below_block bV G1
    have bW:Bel r w.heap.size w V:=bel_below bV bw
    have HI1:=hide (HKp.out _ _ _ hI1 (bV.mono bw.size))
    clear hI1
    clear HP ho HRES HE he HO hV gd hC hN
    go_wp2_with fail
    rw [← HV.out]
    refine PAl.out.mono ?_
    rintro e w2 ⟨hp,b2⟩
    have G3:=below_block b2 G2
    have bX:Bel r w.heap.size w w2:=bel_below b2 bW
    have HI2:=hide (HKp.out _ _ _ HI1.out (b2.mono bW.size))
    obtain ⟨t0,t1,t2,t3⟩:=two_cells G3
    have HP:=hide hp
    clear hp PAl p0 p1 p2 p3 p4 p5 p6
    rcases HP.out with ⟨ho,he⟩ | ⟨nb2,cts2,co2,N2,d2,he,ho,hN,hC⟩
    ·rw [he]
     have HE3:Hid (RES=.error 3):=by show _=_;rw [HE2.out,ho];rfl
     clear HP ho he HE2
     go_wp2
     exact bodyPost_ret (v:=.tuple #[.agg #[.bool false,.slice none 0 0],.int .i64 3]) (by simp [results,Tryz.results67,go_sem,t0,t1]) rfl ⟨.inl ⟨3,by decide,HE3.out,rfl⟩,(bX.setCell (by show w.heap.size≤w.heap.size+1;omega) _).setCell (by show w.heap.size≤w.heap.size+1;omega) _⟩
    ·rw [he]
     have HE3:Hid (RES=.ok ⟨nb2,cls cts2⟩):=by show _=_;rw [HE2.out,ho];rfl
     have HN2:=hide hN
     clear HP ho he HE2 hN
     go_wp2
     exact bodyPost_ret (v:=.tuple #[.agg #[.bool nb2,.slice co2 N2 d2],.int .i64 0]) (by simp [results,Tryz.results67,go_sem,t0,t1]) rfl ⟨.inr ⟨nb2,cts2,co2,N2,d2,rfl,HE3.out,HN2.out,hC.stored G3 nb2 _,HKp.out _ _ _ HI2.out (((Below.refl _ _).setCell (by show w.heap.size≤w.heap.size+1;omega) _).setCell (by show w.heap.size≤w.heap.size+1;omega) _)⟩,(bX.setCell (by show w.heap.size≤w.heap.size+1;omega) _).setCell (by show w.heap.size≤w.heap.size+1;omega) _⟩
 ·match kids,k0,HKL,sk,hkin,hkr,ih,HRT with
  | [k,j],_,HKL,sk,hkin,hkr,ih,HRT =>
   have HE:Hid (evG f (ET.node ⟨kd,en,rg,wd,ms,bs⟩ ⟨ma,mc,ba,bc,ka,kc⟩ [k,j]).ex=exb (evG f k.ex) fun m=>exb (evG f j.ex) fun m'=>exc (binM m m' wd)):=evg_bin e
   have HK:Hid (costG kf (ET.node ⟨kd,en,rg,wd,ms,bs⟩ ⟨ma,mc,ba,bc,ka,kc⟩ [k,j]).ex=costG kf k.ex+costG kf j.ex):=costg_bin e
   have hk1:kl=2:=by rw [HKL.out];rfl
   obtain ⟨b,off,rfl,hb,hcell⟩:=seg_expr sk (k:=0) (by simp)
   have hc7:Cells7 w b off k:=by simpa using hcell 0 (by simp)
   have hd7:Cells7 w b (off+7) j:=by simpa using hcell 1 (by simp)
   obtain ⟨c0,c1,c2,c3,c4,c5,c6⟩:=hc7
   have PI:=hide (fun w' (hb:Below w.heap.size w w')=>ih k (by simp) w' cc (HKp.out _ _ _ HI.out hb) (Nat.le_trans HNw.out hb.size) (ET.In.below hb k (inL_mem hkin k (by simp))) (hkr k.ex (by simp [exL])))
   have PJ:=hide (fun w' c' (hb:Bel r w.heap.size w w') (h':I c' w')=>ih j (by simp) w' c' h' (Nat.le_trans HNw.out hb.size) (ET.In.bel HSo.out hb j (inL_mem hkin j (by simp))) (hkr j.ex (by simp [exL])))
   generalize hev:evG f k.ex=O at PI HE
   generalize hck:costG kf k.ex=K1 at PI HK
   generalize hev2:evG f j.ex=O2 at PJ HE
   generalize hck2:costG kf j.ex=K2 at PJ HK
   have HO:=hide hev
   have HO2:=hide hev2
   have rk:=hide (hkr k.ex (by simp [exL]))
   have rj:=hide (hkr j.ex (by simp [exL]))
   simp only at e
   subst e
   subst hk1
   rw [HE.out,HK.out]
   clear ih hev hev2 hck hck2 HIN HRT halone P1 hkr hkin sk HK
   unfold eval at PI PJ
   obtain ⟨RES,hRES⟩:∃ RES,RES=exb O fun m=>exb O2 fun m'=>exc (binM m m' wd):=⟨_,rfl⟩
   rw [← hRES]
   have HRES:=hide hRES
   have HD7:=hide hd7
   clear hRES hd7
   go_enter Tryz.func67,Tryz.ntmps67
   go_wp2_with fail
   rw [← HW.out]
   refine (PI.out W bel0).mono ?_
   rintro e w1 ⟨hp,b1⟩
   have G1:=bel_block b1 HB.out.row (Nat.le_trans HNw.out (Nat.le_succ _)) G0
   have F1:=bel_block b1 HB.out.row HNw.out F0
   have bw:Bel r w.heap.size w w1:=(Bel.of bel0 r).trans (b1.mono bel0.size)
   have l0:w.heap.size<w1.heap.size:=lt_of_block F1
   have l1:w.heap.size+1<w1.heap.size:=lt_of_block G1
   have HP:=hide hp
   clear hp c0 c1 c2 c3 c4 c5 c6 PI
   obtain ⟨t0,t1,t2,t3⟩:=two_cells G1
   rcases HP.out with ⟨x,hx,ho,he⟩ | ⟨nb,cts,co,N,d,he,ho,hN,hC,hI1⟩
   ·rw [he]
    have HE2:Hid (RES=.error x):=by show _=_;rw [HRES.out,ho];rfl
    have HX:=hide hx
    have hxb:(x != 0)=true:=by simpa using hx
    clear hx
    clear HP ho HRES HE he HO HO2
    go_wp2
    exact bodyPost_ret (v:=.tuple #[.agg #[.bool false,.slice none 0 0],.int .i64 x]) (by simp [results,Tryz.results67,go_sem,(err_done G1 (.cells #[.bool false,.slice none 0 0] 131)).1,(err_done G1 (.cells #[.bool false,.slice none 0 0] 131)).2]) rfl ⟨.inl ⟨x,HX.out,HE2.out,rfl⟩,bel_err bw (by omega) _⟩
   ·rw [he]
    have HE2:Hid (RES=exb O2 fun m'=>exc (binM ⟨nb,cls cts⟩ m' wd)):=by show _=_;rw [HRES.out,ho];rfl
    have gd:=HGD.out k.ex rk.out ⟨nb,cls cts⟩ (HO.out.trans ho)
    obtain ⟨V,hV⟩:∃ V,V=w1.alloc (.cells #[.bool nb,.slice co N d] 131):=⟨_,rfl⟩
    obtain ⟨X,hX⟩:∃ X,X=w1.heap.size:=⟨_,rfl⟩
    have X0:V.heap[X]?=some (.cells #[.bool nb,.slice co N d] 131 (0,0)):=by rw [hV,hX];exact heap_alloc_new w1 _
    have bV:Below w1.heap.size w1 V:=by rw [hV];exact (Below.refl _ _).alloc (Nat.le_refl _) _
    have hCV:=hC.below bV
    have HV:=hide hV
    have HXN:Hid (Nb≤X):=by show _≤_;rw [hX];exact Nat.le_trans HNw.out bw.size
    have HX:=hide hX
    have HN:=hide hN
    have HGK:=hide gd
    obtain ⟨p0,p1,p2,p3,p4,p5,p6⟩:=seven_cells F1
    have G2:=below_block bV G1
    have F2:=below_block bV F1
    have bW:Bel r w.heap.size w V:=bel_below bV bw
    have HI1:=hide (HKp.out _ _ _ hI1 (bV.mono bw.size))
    clear hI1
    obtain ⟨d0,d1,d2,d3,d4,d5,d6⟩:=HD7.out
    have hrb:r≠some b:=fun e0=>HSo.out b e0 _ _ d3
    have q0:=(bw.cell (b:=b) (o:=off+7) hb hrb).trans d0
    have q1:=(bw.cell (b:=b) (o:=off+7+1) hb hrb).trans d1
    have q2:=(bw.cell (b:=b) (o:=off+7+2) hb hrb).trans d2
    have q3:=(bw.cell (b:=b) (o:=off+7+3) hb hrb).trans d3
    have q4:=(bw.cell (b:=b) (o:=off+7+4) hb hrb).trans d4
    have q5:=(bw.cell (b:=b) (o:=off+7+5) hb hrb).trans d5
    have q6:=(bw.cell (b:=b) (o:=off+7+6) hb hrb).trans d6
    have bl1:b<w1.heap.size:=Nat.lt_of_lt_of_le hb bw.size
    clear HP ho HRES HE he HO hV gd hC hN d0 d1 d2 d3 d4 d5 d6 hrb
    go_wp2_with fail
    rw [← HV.out]
    refine (PJ.out V _ bW HI1.out).mono ?_
    rintro e w2 ⟨hp,b2⟩
    rw [← HX.out]
    have G3:=bel_block b2 HB.out.row (Nat.le_trans HNw.out (Nat.le_succ _)) G2
    have F3:=bel_block b2 HB.out.row HNw.out F2
    have X1:=bel_block b2 HB.out.row HXN.out X0
    have hC2:=hCV.bel (HB.out.solo _ _ HI1.out) b2
    have bX:Bel r w.heap.size w w2:=bel_step b2 bW
    have l2:w.heap.size<w2.heap.size:=lt_of_block F3
    have l3:w.heap.size+1<w2.heap.size:=lt_of_block G3
    have l4:X<w2.heap.size:=lt_of_block X1
    obtain ⟨t0,t1,t2,t3⟩:=two_cells G3
    have HP:=hide hp
    clear hp PJ p0 p1 p2 p3 p4 p5 p6 q0 q1 q2 q3 q4 q5 q6 HX hX HV
    rcases HP.out with ⟨x,hx,ho,he⟩ | ⟨nb2,cts2,co2,N2,e2,he,ho,hN,hC,hI2⟩
    ·rw [he]
     have HE3:Hid (RES=.error x):=by show _=_;rw [HE2.out,ho];rfl
     have HX:=hide hx
     have hxb:(x != 0)=true:=by simpa using hx
     clear hx
     clear HP ho he HE2
     go_wp2
     exact bodyPost_ret (v:=.tuple #[.agg #[.bool false,.slice none 0 0],.int .i64 x]) (by simp [results,Tryz.results67,go_sem,(err_done G3 (.cells #[.bool false,.slice none 0 0] 131)).1,(err_done G3 (.cells #[.bool false,.slice none 0 0] 131)).2]) rfl ⟨.inl ⟨x,HX.out,HE3.out,rfl⟩,bel_err bX (by omega) _⟩
    ·rw [he]
     have HE3:Hid (RES=exc (binM ⟨nb,cls cts⟩ ⟨nb2,cls cts2⟩ wd)):=by show _=_;rw [HE2.out,ho];rfl
     have gd2:=HGD.out j.ex rj.out ⟨nb2,cls cts2⟩ (HO2.out.trans ho)
     have gd1:=HGK.out
     obtain ⟨U,hU⟩:∃ U,U=w2.alloc (.cells #[.bool nb2,.slice co2 N2 e2] 131):=⟨_,rfl⟩
     have bU:Below w2.heap.size w2 U:=by rw [hU];exact (Below.refl _ _).alloc (Nat.le_refl _) _
     have PB:=hide (mbin_any nb nb2 cts cts2 wd co co2 N d N2 e2 U (hC2.below bU) (hC.below bU) HN.out hN gd1.fine gd2.fine (by rw [HN.out,← cls_len];exact gd1.len) (by rw [hN,← cls_len];exact gd2.len) (fun h=>by rw [HN.out,← cls_len];exact gd1.num h) (fun h=>by rw [hN,← cls_len];exact gd2.num h))
     have HU:=hide hU
     obtain ⟨x0,x1,_,_⟩:=two_cells X1
     obtain ⟨p0,p1,p2,p3,p4,p5,p6⟩:=seven_cells F3
     have G4:=below_block bU G3
     have bY:Bel r w.heap.size w U:=bel_below bU bX
     have HI3:=hide (HKp.out _ _ _ hI2 (bU.mono bX.size))
     clear hI2
     clear HP ho he HE2 hU hN hC gd1 gd2 HO2
     go_wp2_with fail
     rw [← HU.out]
     refine PB.out.mono ?_
     rintro e w3 ⟨hp,b3⟩
     have G5:=below_block b3 G4
     have bZ:Bel r w.heap.size w w3:=bel_below b3 bY
     have HI4:=hide (HKp.out _ _ _ HI3.out (b3.mono bY.size))
     obtain ⟨t0,t1,t2,t3⟩:=two_cells G5
     have HP:=hide hp
     clear hp PB p0 p1 p2 p3 p4 p5 p6 x0 x1 HU
     rcases HP.out with ⟨ho,he⟩ | ⟨nb3,cts3,co3,N3,d3,he,ho,hN,hC⟩
     ·rw [he]
      have HE4:Hid (RES=.error 3):=by show _=_;rw [HE3.out,ho];rfl
      clear HP ho he HE3
      go_wp2
      exact bodyPost_ret (v:=.tuple #[.agg #[.bool false,.slice none 0 0],.int .i64 3]) (by simp [results,Tryz.results67,go_sem,t0,t1]) rfl ⟨.inl ⟨3,by decide,HE4.out,rfl⟩,(bZ.setCell (by show w.heap.size≤w.heap.size+1;omega) _).setCell (by show w.heap.size≤w.heap.size+1;omega) _⟩
     ·rw [he]
      have HE4:Hid (RES=.ok ⟨nb3,cls cts3⟩):=by show _=_;rw [HE3.out,ho];rfl
      have HN3:=hide hN
      clear HP ho he HE3 hN
      go_wp2
      exact bodyPost_ret (v:=.tuple #[.agg #[.bool nb3,.slice co3 N3 d3],.int .i64 0]) (by simp [results,Tryz.results67,go_sem,t0,t1]) rfl ⟨.inr ⟨nb3,cts3,co3,N3,d3,rfl,HE4.out,HN3.out,hC.stored G5 nb3 _,by
       have:=HKp.out _ _ _ HI4.out (((Below.refl w.heap.size w3).setCell (p:=⟨w.heap.size+1,0,none⟩) (by show w.heap.size≤w.heap.size+1;omega) (.bool nb3)).setCell (p:=⟨w.heap.size+1,1,none⟩) (by show w.heap.size≤w.heap.size+1;omega) (.slice co3 N3 d3))
       rw [Nat.add_assoc] at this
       exact this⟩,(bZ.setCell (by show w.heap.size≤w.heap.size+1;omega) _).setCell (by show w.heap.size≤w.heap.size+1;omega) _⟩
end Go.Proofs.YtoldmigappbjcaaGreatDoor
namespace Go.GrainU
open Go.RowKit
theorem OwnC.bel {w w':World} {r:Option Nat} {base T N:Nat} {v:Value} {l:List CT} (h:OwnC w base T v N l) (hr:∀ C,r=some C→C<base) (hs:Solo r w) (hb:Bel r w.heap.size w w'):OwnC w' base T v N l :=
 ⟨own_bel h.own hr hb,fun c hc=>(h.ser c hc).bel (wordy_l _) hs hb⟩
def sumv (J:Grain.Sm) (x:Int):Value:=.tuple #[.agg #[.int .i64 J.c,.int .i64 J.t,.int .i64 J.mn,.int .i64 J.mx,.int .i64 J.f,.int .i64 J.l,.int .i64 J.r],.int .i64 x]
def SPost (S : Except Int Grain.Sm) (I : Nat → World → Prop) (r : Option Nat) (c k : Nat) (w : World) (e : Ending) (w' : World) : Prop :=
  ((∃ (x : Int) (J : Grain.Sm), x ≠ 0 ∧ S = .error x ∧ e = .returned (sumv J x)) ∨
   ∃ J : Grain.Sm, S = .ok J ∧ e = .returned (sumv J 0) ∧ I (c + k) w') ∧ Bel r w.heap.size w w'
def winT (S:Nat→Except Int Grain.Sm) (h:Hd) (l:List ST):Nat→Except Int (List Cl)
 | 0=>.ok []
 | k+1 =>
  match winT S h l k with
  | .error e=>.error e
  | .ok c =>
   if says (st l k).ser h.ms=true then
    match S k with
    | .error e=>.error e
    | .ok s=>.ok (c++if (valP h.word s).2=true then [((st l k).ser,(valP h.word s).1)] else [])
   else .ok c
def winKT (K:Nat→Nat) (h:Hd) (l:List ST):Nat→Nat
 | 0=>0
 | k+1=>winKT K h l k+if says (st l k).ser h.ms=true then K k else 0
theorem winT_err {S:Nat→Except Int Grain.Sm} {h:Hd} {l:List ST} {x:Int} {k:Nat} (e:winT S h l k=.error x):∀ n,k≤n→winT S h l n=.error x:=by
 intro n
 induction n with
 | zero=>intro hk;rw [show k=0 from by omega] at e;exact e
 | succ n ih =>
  intro hk
  rcases Nat.lt_or_ge n k with h1 | h1
  ·rw [show n+1=k from by omega];exact e
  ·rw [winT,ih h1]
theorem chk_zero {e:Ex} {time:Int} (h:chk e time=0):Rt e∧0≤time∧time≤1000000:=by
 unfold chk at h
 by_cases h1:(wr e 1 0).1=0
 ·rw [if_pos h1] at h
  by_cases h2:typ e=0
  ·rw [if_pos h2] at h
   by_cases h3:time<0∨1000000<time
   ·rw [if_pos h3] at h;simp at h
   ·exact ⟨(wr_ok e 1 0 (by omega) h1).1,by omega,by omega⟩
  ·rw [if_neg h2] at h;exact absurd h h2
 ·rw [if_neg h1] at h;exact absurd h h1
def overW (S:Nat→Int→Int→Except Int Grain.Sm) (l:List ST) (n:Nat) (time:Int) (h:Hd):Except Int (List Cl):=winT (fun i=>S i (max 0 (time-h.range)) time) h l n
def overC (K:Nat→Int→Int→Nat) (l:List ST) (n:Nat) (time:Int) (h:Hd):Nat:=winKT (fun i=>K i (max 0 (time-h.range)) time) h l n
def overE (S:Nat→Int→Int→Except Int Grain.Sm) (l:List ST) (n:Nat) (time:Int) (e:Ex):Except Int Mn:=if chk e time=0 then evG (overW S l n time) e else .error (chk e time)
def overK (K:Nat→Int→Int→Nat) (l:List ST) (n:Nat) (time:Int) (e:Ex):Nat:=costG (overC K l n time) e
def OPost (O : Except Int Mn) (I : Nat → World → Prop) (r : Option Nat) (c k : Nat) (w : World) (e : Ending) (w' : World) : Prop :=
  ((∃ x : Int, x ≠ 0 ∧ O = .error x ∧ e = .returned (.tuple #[.slice none 0 0, .int .i64 x])) ∨
   ∃ nb cts co M d, e = .returned (.tuple #[.slice co M d, .int .i64 0]) ∧ O = .ok ⟨nb, cls cts⟩ ∧ M = cts.length ∧ CsIn w' co cts ∧ I (c + k) w') ∧ Bel r w.heap.size w w'
theorem spost_with {S:Except Int Grain.Sm} {I:Nat→World→Prop} {r:Option Nat} {c k:Nat} {V w w':World} {e:Ending} (h:SPost S I r c k w e w') (hb:Bel r V.heap.size V w):SPost S (fun c w'=>I c w'∧Bel r V.heap.size V w') r c k w e w':=by
 obtain ⟨h1,h2⟩:=h
 refine ⟨?_,h2⟩
 rcases h1 with h | ⟨J,a,b,d⟩
 ·exact .inl h
 ·exact .inr ⟨J,a,b,d,bel_step h2 hb⟩
theorem gpost_of {O:Except Int Mn} {I J:Nat→World→Prop} {r:Option Nat} {c k:Nat} {w w':World} {e:Ending} (h:GPost O (fun c w'=>I c w'∧J c w') r c k w e w'):GPost O I r c k w e w':=by
 obtain ⟨h1,h2⟩:=h
 refine ⟨?_,h2⟩
 rcases h1 with h | ⟨nb,cts,co,M,d,a,b,m,f,g⟩
 ·exact .inl h
 ·exact .inr ⟨nb,cts,co,M,d,a,b,m,f,g.1⟩
end Go.GrainU
namespace Go.Proofs.YtoldmigappbjcaaGreatDoor
open Go.RowKit Go.GrainU
set_option maxRecDepth 100000 in
set_option maxHeartbeats 8000000 in
theorem gwin_any (l:List ST) (t:ET) (S:Nat→Except Int Grain.Sm) (K:Nat→Nat) (I:Nat→World→Prop) (r:Option Nat) (Nb B1 B2 B3:Nat) (hB:Beside r Nb I) (ao:Option Addr) (n cap:Nat) (w:World) (cc:Nat) (hI:I cc w) (hNw:Nb≤w.heap.size) (hs:SsIn w ao l) (hin:t.In w) (hn:n=l.length) (hn8:n≤8)
  (hS:∀ i s,S i=.ok s→-9223372036854775808≤s.t∧s.t≤9223372036854775807)
  (hsum:∀ (i:Nat) (w':World) (c':Nat),i<n→I c' w'→Bel r w.heap.size w w'→Calls Tryz.prog 70 #[.int .i64 i,.pointer (some ⟨B1,0,none⟩),.pointer (some ⟨B2,0,none⟩),.pointer (some ⟨B3,0,none⟩)] w' fun e w''=>SPost (S i) I r c' (K i) w' e w'') :
  Calls Tryz.prog 69 #[.slice ao n cap,eval t,.func (.func 70) #[] #[.pointer (some ⟨B1,0,none⟩),.pointer (some ⟨B2,0,none⟩),.pointer (some ⟨B3,0,none⟩)]] w fun e w'=>GPost (wopt (winT S t.hd l n)) I r cc (winKT K t.hd l n) w e w':=by
 obtain ⟨i0,hi,hz0,hz1,hz2⟩:=info_parts Tryz.infoCell
 have HN:=hide hn
 have HSo:=hide (hB.solo cc w hI)
 have HKp:=hide (fun c' w1 w2 (h1:I c' w1) (h2:Below w.heap.size w1 w2)=>hB.kept c' w1 w2 h1 (h2.mono hNw))
 have HNw:=hide hNw
 have HB:=hide hB
 have HI:=hide hI
 have HS:=hide hS
 have HSum:=hide hsum
 have HSs:=hide hs
 clear hn hB hI hS hsum hNw
 obtain ⟨ms,hms⟩:∃ ms,ms=t.hd.ms:=⟨_,rfl⟩
 obtain ⟨wd,hwd⟩:∃ wd,wd=t.hd.word:=⟨_,rfl⟩
 obtain ⟨ml,hml⟩:∃ ml,ml=ms.length:=⟨_,rfl⟩
 obtain ⟨kd,hkd⟩:∃ kd,kd=t.hd.kind:=⟨_,rfl⟩
 obtain ⟨rg,hrg⟩:∃ rg,rg=t.hd.range:=⟨_,rfl⟩
 obtain ⟨en,hen⟩:∃ en,en=t.hd.n:=⟨_,rfl⟩
 have hinp:Seg w t.sp.ma (mcells ms)∧ms.length≤9223372036854775806:=by
  rw [hms]
  cases t with
  | node h s kids=>simp only [ET.In] at hin;exact ⟨hin.1.1,hin.2.1.1⟩
 obtain ⟨smM,lM⟩:=hinp
 have HWT:Hid (∀ k,winT S t.hd l (k+1)=match winT S t.hd l k with | .error e=>.error e | .ok c=>if says (st l k).ser ms=true then (match S k with | .error e=>.error e | .ok s=>.ok (c++if (valP wd s).2=true then [((st l k).ser,(valP wd s).1)] else [])) else .ok c):=by
  intro k;rw [hms,hwd];rfl
 have HWK:Hid (∀ k,winKT K t.hd l (k+1)=winKT K t.hd l k+if says (st l k).ser ms=true then K k else 0):=by
  intro k;rw [hms];rfl
 obtain ⟨hd,hhd⟩:∃ hd,hd=t.hd:=⟨_,rfl⟩
 have hml2:t.hd.ms.length=ml:=by rw [hml,hms]
 unfold eval
 generalize t.hd.bs.length=bl
 generalize t.kids.length=kl
 rw [hml2,← hkd,← hrg,← hwd,← hen,← hhd]
 rw [← hhd] at HWT HWK
 clear hml2 hkd hrg hwd hen hms hin
 have HML:=hide hml
 clear hml hhd hs
 have lM':ml≤9223372036854775807:=by rw [HML.out];omega
 obtain ⟨W,hW⟩:∃ W,W=(w.alloc (.cells #[.int .i64 kd,.int .i64 en,.int .i64 rg,.string wd,.slice t.sp.ma ml t.sp.mc,.slice t.sp.ba bl t.sp.bc,.slice t.sp.ka kl t.sp.kc] 41)).alloc (.cells #[.bool false,.slice none 0 0] 131):=⟨_,rfl⟩
 have bel0:Below w.heap.size w W:=by rw [hW];exact ((Below.refl _ _).alloc (Nat.le_refl _) _).alloc (by simp) _
 have F0:W.heap[w.heap.size]?=some (.cells #[.int .i64 kd,.int .i64 en,.int .i64 rg,.string wd,.slice t.sp.ma ml t.sp.mc,.slice t.sp.ba bl t.sp.bc,.slice t.sp.ka kl t.sp.kc] 41 (0,0)):=by rw [hW,Below.heap_alloc _ _ _ (by simp)];exact heap_alloc_new w _
 have G0:W.heap[w.heap.size+1]?=some (.cells #[.bool false,.slice none 0 0] 131 (0,0)):=by
  have:=heap_alloc_new (w.alloc (.cells #[.int .i64 kd,.int .i64 en,.int .i64 rg,.string wd,.slice t.sp.ma ml t.sp.mc,.slice t.sp.ba bl t.sp.bc,.slice t.sp.ka kl t.sp.kc] 41)) (.cells #[.bool false,.slice none 0 0] 131)
  rw [hW];simpa using this
 have HWs:Hid (W.heap.size=w.heap.size+2):=by show _=_;rw [hW];simp
 have HW:=hide hW
 have HRow:Hid (∀ C,r=some C→C<W.heap.size):=fun C hC=>by
  have h1:=HB.out.row C hC
  have h2:=HNw.out
  have h3:=bel0.size
  omega
 have HI0:=hide (HKp.out _ _ _ HI.out bel0)
 have HF0:=hide F0
 have HG0:=hide G0
 have HB0:=hide bel0
 clear hW F0 G0 bel0
 go_enter Tryz.func69,Tryz.ntmps69
 go_wp2
 rw [← HW.out]
 go_loopw [8,17] (fun out i wr=>∃ (k N d:Nat) (co:Option Addr) (cts:List CT),k≤n∧i=.int .i64 k∧out=.slice co N d∧N≤k∧OwnC wr W.heap.size 79 (.slice co N d) N cts∧Hid (winT S hd l k=.ok (cls cts))∧Hid (I (cc+winKT K hd l k) wr)∧Bel r w.heap.size w wr∧wr.heap[w.heap.size]?=some (.cells #[.int .i64 kd,.int .i64 en,.int .i64 rg,.string wd,.slice t.sp.ma ml t.sp.mc,.slice t.sp.ba bl t.sp.bc,.slice t.sp.ka kl t.sp.kc] 41 (0,0))∧wr.heap[w.heap.size+1]?=some (.cells #[.bool false,.slice none 0 0] 131 (0,0))) (fun _ i _=>n-(intOf i).toNat)
 case atStart=>exact ⟨0,0,0,none,[],Nat.zero_le _,rfl,rfl,Nat.le_refl _,OwnC.nil _ _ _,rfl,HI0.out,Bel.of HB0.out r,HF0.out,HG0.out⟩
 case round =>
  obtain ⟨k,N,d,co,cts,hk,rfl,rfl,hNk,own,HC,HIk,bel,Fr,Gr⟩:=hrel
  clear HF0 HG0 HI0 HB0 HI
  have hsz:=bel.size
  by_cases hlt:k<n
  ·have hkl:k<l.length:=by rw [← HN.out];exact hlt
   have HSr:=hide (HSs.out.bel HSo.out bel)
   obtain ⟨b,off,rfl,hb,hcell⟩:=seg_series HSr.out.seg hkl
   obtain ⟨x,hx⟩:∃ x,x=st l k:=⟨_,rfl⟩
   obtain ⟨sn,hsn⟩:∃ sn,sn=x.ser.length:=⟨_,rfl⟩
   have xm:x∈l:=by rw [hx];exact st_mem hkl
   have c0:wr.cell? ⟨b,off+k,none⟩=some (.slice x.sa sn x.sc):=by rw [hsn,hx];exact hcell k hkl
   have HSg:=hide (fun w' (hb':Bel r w.heap.size w w')=>(HSs.out.bel HSo.out hb').ser x xm)
   have HT:Hid (winT S hd l (k+1)=if says x.ser ms=true then (match S k with | .error e=>.error e | .ok s=>.ok (cls cts++if (valP wd s).2=true then [(x.ser,(valP wd s).1)] else [])) else .ok (cls cts)):=by
    show _=_
    rw [HWT.out k,HC.out,← hx]
   have HTK:Hid (winKT K hd l (k+1)=winKT K hd l k+if says x.ser ms=true then K k else 0):=by
    show _=_
    rw [HWK.out k,← hx]
   have sn4:sn≤4:=by rw [hsn];exact HSs.out.len x xm
   have HNIL:Hid (x.sa=none→sn=0∧x.sc=0):=fun h=>by rw [hsn];exact HSs.out.nil x xm h
   have HSN:=hide hsn
   have segM:=smM.bel (wordy_m _) HSo.out bel
   have segS:=HSg.out wr bel
   obtain ⟨p0,p1,p2,p3,p4,p5,p6⟩:=seven_cells Fr
   obtain ⟨Q,hQ⟩:∃ Q,Q=says x.ser ms:=⟨_,rfl⟩
   rw [← hQ] at HT HTK
   have HQ:=hide hQ
   have sn63:sn≤9223372036854775807:=by omega
   obtain ⟨KA,hKA⟩:∃ KA,KA=winKT K hd l k:=⟨_,rfl⟩
   obtain ⟨KB,hKB⟩:∃ KB,KB=winKT K hd l (k+1):=⟨_,rfl⟩
   rw [← hKA] at HTK HIk
   rw [← hKB] at HTK
   have HKB:=hide hKB
   clear hsn hx hkl hcell hQ hKA hKB xm HC
   go_wp2_with fail
   refine (nmatches_any x.ser ms x.sa t.sp.ma sn x.sc ml t.sp.mc wr segS segM HSN.out HML.out sn63 lM').mono ?_
   rintro e w1 ⟨rfl,b1⟩
   rw [← HQ.out]
   have bel1:=bel_below b1 bel
   have own1:=own.below b1
   have F1:=below_block b1 Fr
   have G1:=below_block b1 Gr
   have HI1:=hide (HKp.out _ _ _ HIk.out (b1.mono hsz))
   clear b1 own Fr Gr bel p0 p1 p2 p3 p4 p5 p6 c0 segM segS HSr HIk hb hsz
   cases Q with
   | false =>
    have HC2:Hid (winT S hd l (k+1)=.ok (cls cts)):=by show _=_;rw [HT.out];simp
    have HI2:Hid (I (cc+winKT K hd l (k+1)) w1):=by
     show I _ _
     rw [← HKB.out,HTK.out];simpa using HI1.out
    clear HT HTK HI1 HKB
    go_wp2
    go_roundw
    case rel=>exact ⟨k+1,N,d,co,cts,by omega,by go_num,rfl,by omega,own1,HC2,HI2,bel1,F1,G1⟩
    case measure=>simp [intOf];omega
   | true =>
    have PS:=hide (HSum.out k w1 _ hlt HI1.out bel1)
    clear HSum
    go_wp2_with fail
    refine PS.out.mono ?_
    rintro e w2 ⟨hp,b2⟩
    have F2:=bel_block b2 HB.out.row HNw.out F1
    have G2:=bel_block b2 HB.out.row (Nat.le_trans HNw.out (Nat.le_succ _)) G1
    have own2:=own1.bel HRow.out (HB.out.solo _ _ HI1.out) b2
    have bel2:=bel_step b2 bel1
    have l0:w.heap.size<w2.heap.size:=lt_of_block F2
    have l1:w.heap.size+1<w2.heap.size:=lt_of_block G2
    have HP:=hide hp
    clear hp PS own1 F1 G1 bel1 b2 HI1
    rcases HP.out with ⟨y,J,hy,ho,he⟩ | ⟨J,ho,he,hI2⟩
    ·rw [he]
     unfold sumv
     have HE2:Hid (winT S hd l n=.error y):=winT_err (k:=k+1) (by rw [HT.out,ho];rfl) n hlt
     have HY:=hide hy
     have hyb:(y != 0)=true:=by simpa using hy
     obtain ⟨t0,t1,t2,t3⟩:=two_cells G2
     clear HP ho he hy HT HTK own2
     go_wp2
     exact bodyPost_ret (v:=.tuple #[.agg #[.bool false,.slice none 0 0],.int .i64 y]) (by simp [results,Tryz.results69,go_sem,(err_done G2 (.cells #[.int .i64 J.c,.int .i64 J.t,.int .i64 J.mn,.int .i64 J.mx,.int .i64 J.f,.int .i64 J.l,.int .i64 J.r] 76)).1,(err_done G2 (.cells #[.int .i64 J.c,.int .i64 J.t,.int .i64 J.mn,.int .i64 J.mx,.int .i64 J.f,.int .i64 J.l,.int .i64 J.r] 76)).2]) rfl ⟨.inl ⟨y,HY.out,by rw [HE2.out];rfl,rfl⟩,bel_err bel2 (by omega) _⟩
    ·rw [he]
     unfold sumv
     have tb:=HS.out k J ho
     obtain ⟨v,hv⟩:∃ v,v=(valP wd J).1:=⟨_,rfl⟩
     obtain ⟨ok,hok⟩:∃ ok,ok=(valP wd J).2:=⟨_,rfl⟩
     have HC1:Hid (winT S hd l (k+1)=.ok (cls cts++if ok=true then [(x.ser,v)] else [])):=by
      show _=_
      rw [HT.out,ho,hv,hok];rfl
     have PV:Hid (∀ w',Calls Tryz.prog 30 #[.string wd,.agg #[.int .i64 J.c,.int .i64 J.t,.int .i64 J.mn,.int .i64 J.mx,.int .i64 J.f,.int .i64 J.l,.int .i64 J.r]] w' fun e w''=>e=.returned (.tuple #[.int .i64 v,.bool ok])∧Below w'.heap.size w' w''):=fun w'=>by
      rw [hv,hok];exact mvalue_any J wd w' tb.1 tb.2
     have HI3:Hid (I (cc+winKT K hd l (k+1)) w2):=by
      show I _ _
      rw [← HKB.out,HTK.out]
      simpa [Nat.add_assoc] using hI2
     have bA:Below w2.heap.size w2 (w2.alloc (.cells #[.int .i64 J.c,.int .i64 J.t,.int .i64 J.mn,.int .i64 J.mx,.int .i64 J.f,.int .i64 J.l,.int .i64 J.r] 76)):=(Below.refl _ _).alloc (Nat.le_refl _) _
     have F3:=below_block bA F2
     have G3:=below_block bA G2
     have own3:=own2.below bA
     have bel3:=bel_below bA bel2
     have HI4:=hide (HKp.out _ _ _ HI3.out (bA.mono bel2.size))
     obtain ⟨p0,p1,p2,p3,p4,p5,p6⟩:=seven_cells F2
     clear hv hok tb HP ho he HT HTK hI2 HI3 own2 bel2 bA HKB G2
     go_wp2_with fail
     refine (PV.out _).mono ?_
     rintro e w8 ⟨rfl,b8⟩
     have bel8:=bel_below b8 bel3
     have own8:=own3.below b8
     have F8:=below_block b8 F3
     have G8:=below_block b8 G3
     have HI8:=hide (HKp.out _ _ _ HI4.out (b8.mono bel3.size))
     clear b8 own3 F2 F3 G3 bel3 p0 p1 p2 p3 p4 p5 p6 PV HI4 l0 l1
     cases ok with
     | false =>
      have HC2:Hid (winT S hd l (k+1)=.ok (cls cts)):=by show _=_;rw [HC1.out];simp
      clear HC1
      go_wp2
      go_roundw
      case rel=>exact ⟨k+1,N,d,co,cts,by omega,by go_num,rfl,by omega,own8,HC2,HI8,bel8,F8,G8⟩
      case measure=>simp [intOf];omega
     | true =>
      have segS8:=HSg.out w8 bel8
      go_wp2_with fail
      refine (mclone_any x.ser x.sa sn x.sc w8 segS8 HSN.out (by omega) HNIL.out).mono ?_
      rintro e w9 ⟨no,N9,d9,rfl,own9,hN9,b9⟩
      have bel9:=bel_below b9 bel8
      have hs9:=bel9.size
      have ownN:=own8.below b9
      have F9:=below_block b9 F8
      have G9:=below_block b9 G8
      have HI9:=hide (HKp.out _ _ _ HI8.out (b9.mono bel8.size))
      have hlt8:∀ g,(Value.slice co N d).ownBlock=some g→g<w8.heap.size:=fun g hg=>(own_base own8.own g hg).2
      have segN9:SegN w9 (Value.slice co N d).ownBlock no (lcells x.ser):=segN_own own9 hlt8
      have HN9:Hid (N9=x.ser.length):=by show _=_;rw [hN9];exact HSN.out
      have hW9:W.heap.size≤w9.heap.size:=by
       have h1:=HWs.out
       have h2:=lt_of_block G9
       omega
      clear own8 b9 own9 bel8 hN9 F8 G8 HI8 segS8
      have belA:Below w9.heap.size w9 (w9.alloc (.cells #[.slice no N9 d9,.int .i64 v] 79)):=(Below.refl _ _).alloc (Nat.le_refl _) _
      have ownA:=ownN.below belA
      have segA:=segN9.below belA
      go_wp2_with (at_builtin;refine wpList_append_lies _ rfl _ _ 46 rfl W.heap.size 79 i0 (.agg #[.slice none 0 0,.int .i64 0]) 2 32 Tryz.underlying46 hi hz0 hz1 hz2 rfl (by decide) _ _ _ rfl ownA.own ⟨w9.heap.size,0,none⟩ 1 1 [.slice no N9 d9,.int .i64 v] rfl rfl (news_two rfl _ _ _) (by simp [Value.oneCell']) (by decide) (by unfold maxLen;omega) (by omega) (by simp;omega) (w9.heap.size+1) (by simp) ?_)
      intro g' cp' wz ownZ grZ hatZ hltZ
      have ownP:=OwnC.push ownA ⟨x.ser,v,no,d9⟩ segA (by rw [← HN9.out];exact ownZ) grZ (by
       rcases hatZ with h | h
       ·exact .inl h
       ·right;simp;omega)
      have bZ:Below W.heap.size w9 wz:=((Below.refl _ _).alloc hW9 _).grown grZ (by simp;omega) (fun j hj=>(own_base ownA.own j hj).1)
      have FZ:wz.heap[w.heap.size]?=_:=(bZ.block _ (by rw [HWs.out];omega)).trans F9
      have GZ:wz.heap[w.heap.size+1]?=_:=(bZ.block _ (by rw [HWs.out];omega)).trans G9
      have bZ':Below w.heap.size w9 wz:=bZ.mono (by rw [HWs.out];omega)
      have HIZ:=hide (HKp.out _ _ _ HI9.out bZ')
      have belZ:Bel r w.heap.size w wz:=bel9.trans (Bel.of bZ' r)
      have HC2:Hid (winT S hd l (k+1)=.ok (cls (cts++[⟨x.ser,v,no,d9⟩]))):=by
       show _=_
       rw [HC1.out,cls_append];simp [cls,CT.cl]
      clear HC1 ownA segA ownZ grZ hatZ hltZ ownN segN9 belA bel9 F9 G9 HI9 bZ bZ'
      go_wp2
      go_roundw
      case rel=>exact ⟨k+1,N+1,cp',_,_,by omega,by go_num,rfl,by omega,ownP,HC2,HIZ,belZ,FZ,GZ⟩
      case measure=>simp [intOf];omega
  ·have he:k=n:=by omega
   subst he
   have hlen:=own.len
   have cin:=own.csIn
   have HLN:=hide hlen
   obtain ⟨t0,t1,t2,t3⟩:=two_cells Gr
   clear HN hlen
   go_wp2
   exact bodyPost_ret (v:=.tuple #[.agg #[.bool false,.slice co N d],.int .i64 0]) (by simp [results,Tryz.results69,go_sem,t0,t1]) rfl ⟨.inr ⟨false,cts,co,N,d,rfl,by rw [HC.out];rfl,HLN.out,cin.stored Gr false _,HKp.out _ _ _ HIk.out (((Below.refl _ _).setCell (by show w.heap.size≤w.heap.size+1;omega) _).setCell (by show w.heap.size≤w.heap.size+1;omega) _)⟩,(bel.setCell (by show w.heap.size≤w.heap.size+1;omega) _).setCell (by show w.heap.size≤w.heap.size+1;omega) _⟩
end Go.Proofs.YtoldmigappbjcaaGreatDoor
namespace Go.GrainU
open Go.RowKit
theorem wrongS_len {s:Lb} (h:wrongS s=0):s.length≤4:=by
 unfold wrongS at h
 by_cases h4:4<s.length
 ·rw [if_pos h4] at h;simp at h
 ·omega
theorem hcells_append (a b:List ST):hcells (a++b)=hcells a++hcells b:=by
 induction a with
 | nil=>rfl
 | cons x r ih=>simp [hcells,ih]
theorem win_max {s:List (Int×Int)} (h:Grain.Right s) (a b:Int):Grain.win s (max 0 a) b=Grain.win s a b:=by
 unfold Grain.win
 apply List.filter_congr
 intro x hx
 obtain ⟨q,hq,rfl⟩:=List.mem_iff_getElem.1 hx
 have:=h.rng q hq
 simp [Grain.tm,List.getD,List.getElem?_eq_getElem hq] at this
 simp only [decide_eq_decide]
 omega
end Go.GrainU
namespace Go.Proofs.YtoldmigappbjcaaGreatDoor
open Go.RowKit Go.GrainU
open Go.RowKit Go.GrainU
set_option maxRecDepth 100000 in
set_option maxHeartbeats 4000000 in
theorem bsum_any (C1 C2:Nat) (S:Except Int Grain.Sm) (k:Nat) (I:Nat→World→Prop) (r:Option Nat) (Nb Bs Bf Bt:Nat) (hB:Beside r Nb I) (i a b:Int) (w:World) (cc:Nat) (hI:I cc w) (hNw:Nb≤w.heap.size)
  (cs:w.cell? ⟨Bs,0,none⟩=some (.func (.func 102) #[] #[.pointer (some ⟨C1,0,none⟩),.pointer (some ⟨C2,0,none⟩)])) (cf:w.cell? ⟨Bf,0,none⟩=some (.int .i64 a)) (ct:w.cell? ⟨Bt,0,none⟩=some (.int .i64 b))
  (hsum:∀ (w':World),I cc w'→Below w.heap.size w w'→Calls Tryz.prog 102 #[.int .i64 i,.int .i64 a,.int .i64 b,.pointer (some ⟨C1,0,none⟩),.pointer (some ⟨C2,0,none⟩)] w' fun e w''=>SPost S I r cc k w' e w'') :
  Calls Tryz.prog 70 #[.int .i64 i,.pointer (some ⟨Bs,0,none⟩),.pointer (some ⟨Bf,0,none⟩),.pointer (some ⟨Bt,0,none⟩)] w fun e w'=>SPost S I r cc k w e w':=by
 have HSum:=hide hsum
 have ls:Bs<w.heap.size:=World.block_lt_of_cell? w _ cs
 have lf:Bf<w.heap.size:=World.block_lt_of_cell? w _ cf
 have lt':Bt<w.heap.size:=World.block_lt_of_cell? w _ ct
 obtain ⟨W,hW⟩:∃ W,W=w.alloc (.cells #[.int .i64 0,.int .i64 0,.int .i64 0,.int .i64 0,.int .i64 0,.int .i64 0,.int .i64 0] 76):=⟨_,rfl⟩
 have bel0:Below w.heap.size w W:=by rw [hW];exact (Below.refl _ _).alloc (Nat.le_refl _) _
 have F0:W.heap[w.heap.size]?=some (.cells #[.int .i64 0,.int .i64 0,.int .i64 0,.int .i64 0,.int .i64 0,.int .i64 0,.int .i64 0] 76 (0,0)):=by rw [hW];exact heap_alloc_new w _
 have PS:=hide (HSum.out W (hB.kept _ _ _ hI (bel0.mono hNw)) bel0)
 have HKp:=hide (fun c' w1 w2 (h1:I c' w1) (h2:Below w.heap.size w1 w2)=>hB.kept c' w1 w2 h1 (h2.mono hNw))
 have HW:=hide hW
 have HB:=hide hB
 have HNw:=hide hNw
 clear hsum hW HSum hB hI hNw
 go_enter Tryz.func70,Tryz.ntmps70
 go_wp2_with fail
 rw [← HW.out]
 refine PS.out.mono ?_
 rintro e w1 ⟨hp,b1⟩
 have F1:=bel_block b1 HB.out.row HNw.out F0
 have bw:Bel r w.heap.size w w1:=(Bel.of bel0 r).trans (b1.mono bel0.size)
 obtain ⟨p0,p1,p2,p3,p4,p5,p6⟩:=seven_cells F1
 obtain ⟨f0,f1,f2,f3,f4,f5,f6⟩:=seven_thaw F1
 have l0:w.heap.size<w1.heap.size:=lt_of_block F1
 have HP:=hide hp
 clear hp PS HB
 rcases HP.out with ⟨y,J,hy,ho,he⟩ | ⟨J,ho,he,hI2⟩
 ·rw [he]
  unfold sumv
  have HO:=hide ho
  have HY:=hide hy
  clear HP ho he hy
  go_wp2
  exact bodyPost_ret (v:=sumv J y) (by simp [sumv,results,Tryz.results70,go_sem,p0,p1,p2,p3,p4,p5,p6]) rfl ⟨.inl ⟨y,J,HY.out,HO.out,rfl⟩,bw.trans (Bel.of (below_set7 (Below.refl w.heap.size w1) (Nat.le_refl _) _ _ _ _ _ _ _) r)⟩
 ·rw [he]
  unfold sumv
  have HO:=hide ho
  have HI2:=hide hI2
  clear HP ho he hI2
  go_wp2
  exact bodyPost_ret (v:=sumv J 0) (by simp [sumv,results,Tryz.results70,go_sem,p0,p1,p2,p3,p4,p5,p6]) rfl ⟨.inr ⟨J,HO.out,rfl,HKp.out _ _ _ HI2.out (below_set7 (Below.refl w.heap.size w1) (Nat.le_refl _) _ _ _ _ _ _ _)⟩,bw.trans (Bel.of (below_set7 (Below.refl w.heap.size w1) (Nat.le_refl _) _ _ _ _ _ _ _) r)⟩
set_option maxRecDepth 100000 in
set_option maxHeartbeats 4000000 in
theorem bover1_any (C1 C2:Nat) (l:List ST) (t:ET) (S:Nat→Except Int Grain.Sm) (K:Nat→Nat) (I:Nat→World→Prop) (r:Option Nat) (Nb Bt Bl Bs:Nat) (hB:Beside r Nb I) (ao:Option Addr) (n cap:Nat) (time:Int) (w:World) (cc:Nat) (hI:I cc w) (hNw:Nb≤w.heap.size) (hs:SsIn w ao l) (hin:t.In w) (hn:n=l.length) (hn8:n≤8)
  (ht0:0≤time) (ht1:time≤1000000) (hr0:1≤t.hd.range) (hr1:t.hd.range≤100000)
  (ct:w.cell? ⟨Bt,0,none⟩=some (.int .i64 time)) (hrt:r≠some Bt) (cl:w.cell? ⟨Bl,0,none⟩=some (.slice ao n cap)) (cs:w.cell? ⟨Bs,0,none⟩=some (.func (.func 102) #[] #[.pointer (some ⟨C1,0,none⟩),.pointer (some ⟨C2,0,none⟩)]))
  (hS:∀ i s,S i=.ok s→-9223372036854775808≤s.t∧s.t≤9223372036854775807)
  (hsum:∀ (i:Nat) (w':World) (c':Nat),i<n→I c' w'→Bel r w.heap.size w w'→Calls Tryz.prog 102 #[.int .i64 i,.int .i64 (max 0 (time-t.hd.range)),.int .i64 time,.pointer (some ⟨C1,0,none⟩),.pointer (some ⟨C2,0,none⟩)] w' fun e w''=>SPost (S i) I r c' (K i) w' e w'') :
  Calls Tryz.prog 68 #[eval t,.pointer (some ⟨Bt,0,none⟩),.pointer (some ⟨Bl,0,none⟩),.pointer (some ⟨Bs,0,none⟩)] w fun e w'=>GPost (wopt (winT S t.hd l n)) I r cc (winKT K t.hd l n) w e w':=by
 have HSo:=hide (hB.solo cc w hI)
 have hrs:r≠some Bs:=fun e=>HSo.out Bs e _ _ cs
 have lt1:Bt<w.heap.size:=World.block_lt_of_cell? w _ ct
 have ll1:Bl<w.heap.size:=World.block_lt_of_cell? w _ cl
 have ls1:Bs<w.heap.size:=World.block_lt_of_cell? w _ cs
 obtain ⟨RR,hRR⟩:∃ RR,RR=wopt (winT S t.hd l n):=⟨_,rfl⟩
 obtain ⟨KK,hKK⟩:∃ KK,KK=winKT K t.hd l n:=⟨_,rfl⟩
 have PW:Hid (∀ (V:World) (Bf:Nat),Below w.heap.size w V→V.heap[Bf]?=some (.cells #[.int .i64 (max 0 (time-t.hd.range))] 3 (0,0))→w.heap.size≤Bf→Calls Tryz.prog 69 #[.slice ao n cap,eval t,.func (.func 70) #[] #[.pointer (some ⟨Bs,0,none⟩),.pointer (some ⟨Bf,0,none⟩),.pointer (some ⟨Bt,0,none⟩)]] V fun e w'=>GPost RR I r cc KK V e w'):=by
  intro V Bf bV hf hfl
  rw [hRR,hKK]
  have lf:Bf<V.heap.size:=lt_of_block hf
  refine gwin_any l t S K I r Nb Bs Bf Bt hB ao n cap V cc (hB.kept _ _ _ hI (bV.mono hNw)) (Nat.le_trans hNw bV.size) (hs.bel HSo.out (Bel.of bV r)) (ET.In.below bV t hin) hn hn8 hS ?_
  intro i w' c' hi hI' hb
  have hb1:Bel r w.heap.size w w':=bel_step hb (Bel.of bV r)
  refine bsum_any C1 C2 (S i) (K i) I r Nb Bs Bf Bt hB i (max 0 (time-t.hd.range)) time w' c' hI' (Nat.le_trans hNw hb1.size) ((hb1.cell ls1 hrs).trans cs) ?_ ((hb1.cell lt1 hrt).trans ct) ?_
  ·rw [hb.cell lf (fun e=>by have:=hB.row Bf e;omega)]
   simp [World.cell?,hf]
  ·intro w'' h1 h2
   exact hsum i w'' c' hi h1 (bel_below h2 hb1)
 rw [← hRR,← hKK]
 have HKp:=hide (fun c' w1 w2 (h1:I c' w1) (h2:Below w.heap.size w1 w2)=>hB.kept c' w1 w2 h1 (h2.mono hNw))
 have HB:=hide hB
 have HNw:=hide hNw
 clear hsum hS hs hin hn hB hI hNw hrs hrt hRR hKK
 unfold eval at PW ⊢
 generalize t.hd.ms.length=ml at PW ⊢
 generalize t.hd.bs.length=bl at PW ⊢
 generalize t.kids.length=kl at PW ⊢
 obtain ⟨rg,hrg⟩:∃ rg,rg=t.hd.range:=⟨_,rfl⟩
 rw [← hrg] at hr0 hr1 PW ⊢
 have tw:IntKind.i64.wrap (time-rg)=time-rg:=by rw [IntKind.wrap_i64];omega
 obtain ⟨W,hW⟩:∃ W,W=(((w.alloc (.cells #[.int .i64 t.hd.kind,.int .i64 t.hd.n,.int .i64 rg,.string t.hd.word,.slice t.sp.ma ml t.sp.mc,.slice t.sp.ba bl t.sp.bc,.slice t.sp.ka kl t.sp.kc] 41)).alloc (.cells #[.bool false,.slice none 0 0] 131)).alloc (.cells #[.int .i64 (max 0 (time-rg))] 3)):=⟨_,rfl⟩
 have bel0:Below w.heap.size w W:=by rw [hW];exact (((Below.refl _ _).alloc (Nat.le_refl _) _).alloc (by simp) _).alloc (by simp;omega) _
 have G0:W.heap[w.heap.size+1]?=some (.cells #[.bool false,.slice none 0 0] 131 (0,0)):=by
  rw [hW,Below.heap_alloc _ _ _ (by simp)]
  have:=heap_alloc_new (w.alloc (.cells #[.int .i64 t.hd.kind,.int .i64 t.hd.n,.int .i64 rg,.string t.hd.word,.slice t.sp.ma ml t.sp.mc,.slice t.sp.ba bl t.sp.bc,.slice t.sp.ka kl t.sp.kc] 41)) (.cells #[.bool false,.slice none 0 0] 131)
  simpa using this
 have T0:W.heap[w.heap.size+1+1]?=some (.cells #[.int .i64 (max 0 (time-rg))] 3 (0,0)):=by
  have:=heap_alloc_new ((w.alloc (.cells #[.int .i64 t.hd.kind,.int .i64 t.hd.n,.int .i64 rg,.string t.hd.word,.slice t.sp.ma ml t.sp.mc,.slice t.sp.ba bl t.sp.bc,.slice t.sp.ka kl t.sp.kc] 41)).alloc (.cells #[.bool false,.slice none 0 0] 131)) (.cells #[.int .i64 (max 0 (time-rg))] 3)
  rw [hW];simpa using this
 have kl1:(((w.alloc (.cells #[.int .i64 t.hd.kind,.int .i64 t.hd.n,.int .i64 rg,.string t.hd.word,.slice t.sp.ma ml t.sp.mc,.slice t.sp.ba bl t.sp.bc,.slice t.sp.ka kl t.sp.kc] 41)).alloc (.cells #[.bool false,.slice none 0 0] 131)).alloc (.cells #[.int .i64 (max 0 (time-rg))] 3)).cell? ⟨Bl,0,none⟩=some (.slice ao n cap):=by
  rw [← hW];exact (bel0.cell (p:=⟨Bl,0,none⟩) ll1).trans cl
 have PW1:=hide (PW.out W (w.heap.size+1+1) bel0 T0 (by omega))
 have HW:=hide hW
 have HB0:=hide bel0
 clear hrg hW PW T0 bel0
 go_enter Tryz.func68,Tryz.ntmps68
 go_wp2_with fail
 rw [← HW.out]
 refine PW1.out.mono ?_
 rintro e w1 ⟨hp,b1⟩
 have G1:=bel_block b1 HB.out.row (Nat.le_trans HNw.out (Nat.le_succ _)) G0
 obtain ⟨t0,t1,t2,t3⟩:=two_cells G1
 have bw:Bel r w.heap.size w w1:=(Bel.of HB0.out r).trans (b1.mono HB0.out.size)
 have HP:=hide hp
 clear hp PW1 kl1 G0
 rcases HP.out with ⟨x,hx,ho,he⟩ | ⟨nb2,cts2,co2,N2,d2,he,ho,hN,hC,hI2⟩
 ·rw [he]
  have HE3:=hide ho
  have HX:=hide hx
  clear HP ho he hx
  go_wp2
  exact bodyPost_ret (v:=.tuple #[.agg #[.bool false,.slice none 0 0],.int .i64 x]) (by simp [results,Tryz.results68,go_sem,t0,t1]) rfl ⟨.inl ⟨x,HX.out,HE3.out,rfl⟩,(bw.setCell (by show w.heap.size≤w.heap.size+1;omega) _).setCell (by show w.heap.size≤w.heap.size+1;omega) _⟩
 ·rw [he]
  have HE3:=hide ho
  have HN2:=hide hN
  have HI2:=hide hI2
  clear HP ho he hN hI2
  go_wp2
  exact bodyPost_ret (v:=.tuple #[.agg #[.bool nb2,.slice co2 N2 d2],.int .i64 0]) (by simp [results,Tryz.results68,go_sem,t0,t1]) rfl ⟨.inr ⟨nb2,cts2,co2,N2,d2,rfl,HE3.out,HN2.out,hC.stored G1 nb2 _,HKp.out _ _ _ HI2.out (((Below.refl _ _).setCell (by show w.heap.size≤w.heap.size+1;omega) _).setCell (by show w.heap.size≤w.heap.size+1;omega) _)⟩,(bw.setCell (by show w.heap.size≤w.heap.size+1;omega) _).setCell (by show w.heap.size≤w.heap.size+1;omega) _⟩
set_option maxRecDepth 100000 in
set_option maxHeartbeats 4000000 in
theorem bover_any (C1 C2:Nat) (l:List ST) (t:ET) (S:Nat→Int→Int→Except Int Grain.Sm) (K:Nat→Int→Int→Nat) (I:Nat→World→Prop) (r:Option Nat) (Nb:Nat) (hB:Beside r Nb I) (ao:Option Addr) (n cap:Nat) (time:Int) (w:World) (cc:Nat) (hI:I cc w) (hNw:Nb≤w.heap.size) (hs:SsIn w ao l) (hin:t.In w) (hn:n=l.length) (hn8:n≤8)
  (hS:∀ i a s,S i a time=.ok s→-9223372036854775808≤s.t∧s.t≤9223372036854775807)
  (hG:∀ h,winBad h=0→∀ c,overW S l n time h=.ok c→Gd ⟨false,c⟩)
  (hsum:0≤time→time≤1000000→∀ (i:Nat) (a:Int) (w':World) (c':Nat),i<n→0≤a→a≤time→I c' w'→Bel r w.heap.size w w'→Calls Tryz.prog 102 #[.int .i64 i,.int .i64 a,.int .i64 time,.pointer (some ⟨C1,0,none⟩),.pointer (some ⟨C2,0,none⟩)] w' fun e w''=>SPost (S i a time) I r c' (K i a time) w' e w'') :
  Calls Tryz.prog 40 #[.slice ao n cap,eval t,.int .i64 time,.func (.func 102) #[] #[.pointer (some ⟨C1,0,none⟩),.pointer (some ⟨C2,0,none⟩)]] w fun e w'=>OPost (overE S l n time t.ex) I r cc (overK K l n time t.ex) w e w':=by
 obtain ⟨C,hC⟩:∃ C,C=chk t.ex time:=⟨_,rfl⟩
 have PC:=hide (fun w' (hb:Below w.heap.size w w')=>mcheck_any t time w' (ET.In.below hb t hin))
 rw [← hC] at PC
 have PM:Hid (C=0→∀ (Bt Bl Bs:Nat) (V:World),Below w.heap.size w V→w.heap.size≤Bt→V.cell? ⟨Bt,0,none⟩=some (.int .i64 time)→V.cell? ⟨Bl,0,none⟩=some (.slice ao n cap)→V.cell? ⟨Bs,0,none⟩=some (.func (.func 102) #[] #[.pointer (some ⟨C1,0,none⟩),.pointer (some ⟨C2,0,none⟩)])→Calls Tryz.prog 67 #[eval t,.func (.func 68) #[] #[.pointer (some ⟨Bt,0,none⟩),.pointer (some ⟨Bl,0,none⟩),.pointer (some ⟨Bs,0,none⟩)]] V fun e w'=>GPost (evG (overW S l n time) t.ex) I r cc (costG (overC K l n time) t.ex) V e w'):=by
  intro h0 Bt Bl Bs V bV hBt ct cl cs
  obtain ⟨hrt,ht0,ht1⟩:=chk_zero (hC.symm.trans h0)
  have hrow2:∀ C,r=some C→C<V.heap.size:=fun C hC=>by have:=hB.row C hC;have:=bV.size;omega
  have hB2:Beside r V.heap.size (fun c w'=>I c w'∧Bel r V.heap.size V w'):=⟨hrow2,fun c w1 w2 h1 h2=>⟨hB.kept c w1 w2 h1.1 (h2.mono (Nat.le_trans hNw bV.size)),h1.2.trans (Bel.of h2 r)⟩,fun c w1 h1=>hB.solo c w1 h1.1⟩
  have hI2:I cc V:=hB.kept _ _ _ hI (bV.mono hNw)
  have hSoV:=hB.solo cc V hI2
  have hrBt:r≠some Bt:=fun e=>by have:=hB.row Bt e;omega
  have lBt:Bt<V.heap.size:=World.block_lt_of_cell? V _ ct
  have lBl:Bl<V.heap.size:=World.block_lt_of_cell? V _ cl
  have lBs:Bs<V.heap.size:=World.block_lt_of_cell? V _ cs
  have hrBl:r≠some Bl:=fun e=>hSoV Bl e _ _ cl
  have hrBs:r≠some Bs:=fun e=>hSoV Bs e _ _ cs
  refine (gcomes_any (overW S l n time) (overC K l n time) (fun c w'=>I c w'∧Bel r V.heap.size V w') r V.heap.size Bt Bl Bs hB2 hG ?_ t V cc ⟨hI2,Bel.refl _ _ _⟩ (Nat.le_refl _) (ET.In.below bV t hin) hrt).mono ?_
  ·intro t' w' c' hI' hN' hin' hwb
   obtain ⟨_,_,_,hr0,hr1⟩:=winBad_ok hwb
   exact bover1_any C1 C2 l t' (fun i=>S i (max 0 (time-t'.hd.range)) time) (fun i=>K i (max 0 (time-t'.hd.range)) time) (fun c w'=>I c w'∧Bel r V.heap.size V w') r V.heap.size Bt Bl Bs hB2 ao n cap time w' c' hI' hN' ((hs.bel (hB.solo cc w hI) (Bel.of bV r)).bel hSoV hI'.2) hin' hn hn8 ht0 ht1 hr0 hr1 ((hI'.2.cell lBt hrBt).trans ct) hrBt ((hI'.2.cell lBl hrBl).trans cl) ((hI'.2.cell lBs hrBs).trans cs) (fun i s=>hS i _ s) (fun i w'' c'' hi hI'' hb=>by
    refine (hsum ht0 ht1 i (max 0 (time-t'.hd.range)) w'' c'' hi (by omega) (by omega) hI''.1 (bel_step hI''.2 (Bel.of bV r))).mono ?_
    intro e w3 hp
    exact spost_with hp hI''.2)
  ·intro e w' hp
   exact gpost_of hp
 obtain ⟨EE,hEE⟩:∃ EE,EE=evG (overW S l n time) t.ex:=⟨_,rfl⟩
 obtain ⟨KK,hKK⟩:∃ KK,KK=costG (overC K l n time) t.ex:=⟨_,rfl⟩
 have HR:Hid (overE S l n time t.ex=if C=0 then EE else .error C):=by show _=_;rw [hC,hEE];rfl
 have HK:Hid (overK K l n time t.ex=KK):=by show _=_;rw [hKK];rfl
 rw [HK.out]
 rw [← hEE,← hKK] at PM
 generalize overE S l n time t.ex=RES at HR ⊢
 have HKp:=hide (fun c' w1 w2 (h1:I c' w1) (h2:Below w.heap.size w1 w2)=>hB.kept c' w1 w2 h1 (h2.mono hNw))
 have HB:=hide hB
 have HNw:=hide hNw
 clear hsum hS hs hin hn hB hI hNw hG hC HK hEE hKK
 unfold eval at PC PM ⊢
 generalize t.hd.ms.length=ml at PC PM ⊢
 generalize t.hd.bs.length=bl at PC PM ⊢
 generalize t.kids.length=kl at PC PM ⊢
 obtain ⟨W,hW⟩:∃ W,W=(((w.alloc (.cells #[.slice ao n cap] 98)).alloc (.cells #[.int .i64 t.hd.kind,.int .i64 t.hd.n,.int .i64 t.hd.range,.string t.hd.word,.slice t.sp.ma ml t.sp.mc,.slice t.sp.ba bl t.sp.bc,.slice t.sp.ka kl t.sp.kc] 41)).alloc (.cells #[.int .i64 time] 3)).alloc (.cells #[.func (.func 102) #[] #[.pointer (some ⟨C1,0,none⟩),.pointer (some ⟨C2,0,none⟩)]] 101):=⟨_,rfl⟩
 have bel0:Below w.heap.size w W:=by rw [hW];exact ((((Below.refl _ _).alloc (Nat.le_refl _) _).alloc (by simp) _).alloc (by simp;omega) _).alloc (by simp;omega) _
 have heq:∀ w':World,Sem.run Tryz.prog (binOp BinOp.eql 101 (.func (.func 102) #[] #[.pointer (some ⟨C1,0,none⟩),.pointer (some ⟨C2,0,none⟩)]) .nilFunc) w'=.ok (.bool false) w':=fun w'=>by kernel_rfl
 have A0:W.heap[w.heap.size]?=some (.cells #[.slice ao n cap] 98 (0,0)):=by rw [hW,Below.heap_alloc _ _ _ (by simp;omega),Below.heap_alloc _ _ _ (by simp;omega),Below.heap_alloc _ _ _ (by simp)];exact heap_alloc_new w _
 have F0:W.heap[w.heap.size+1]?=some (.cells #[.int .i64 t.hd.kind,.int .i64 t.hd.n,.int .i64 t.hd.range,.string t.hd.word,.slice t.sp.ma ml t.sp.mc,.slice t.sp.ba bl t.sp.bc,.slice t.sp.ka kl t.sp.kc] 41 (0,0)):=by
  rw [hW,Below.heap_alloc _ _ _ (by simp),Below.heap_alloc _ _ _ (by simp)]
  have:=heap_alloc_new (w.alloc (.cells #[.slice ao n cap] 98)) (.cells #[.int .i64 t.hd.kind,.int .i64 t.hd.n,.int .i64 t.hd.range,.string t.hd.word,.slice t.sp.ma ml t.sp.mc,.slice t.sp.ba bl t.sp.bc,.slice t.sp.ka kl t.sp.kc] 41)
  simpa using this
 have T0:W.heap[w.heap.size+1+1]?=some (.cells #[.int .i64 time] 3 (0,0)):=by
  rw [hW,Below.heap_alloc _ _ _ (by simp)]
  have:=heap_alloc_new ((w.alloc (.cells #[.slice ao n cap] 98)).alloc (.cells #[.int .i64 t.hd.kind,.int .i64 t.hd.n,.int .i64 t.hd.range,.string t.hd.word,.slice t.sp.ma ml t.sp.mc,.slice t.sp.ba bl t.sp.bc,.slice t.sp.ka kl t.sp.kc] 41)) (.cells #[.int .i64 time] 3)
  simpa using this
 have S0:W.heap[w.heap.size+1+1+1]?=some (.cells #[.func (.func 102) #[] #[.pointer (some ⟨C1,0,none⟩),.pointer (some ⟨C2,0,none⟩)]] 101 (0,0)):=by
  have:=heap_alloc_new (((w.alloc (.cells #[.slice ao n cap] 98)).alloc (.cells #[.int .i64 t.hd.kind,.int .i64 t.hd.n,.int .i64 t.hd.range,.string t.hd.word,.slice t.sp.ma ml t.sp.mc,.slice t.sp.ba bl t.sp.bc,.slice t.sp.ka kl t.sp.kc] 41)).alloc (.cells #[.int .i64 time] 3)) (.cells #[.func (.func 102) #[] #[.pointer (some ⟨C1,0,none⟩),.pointer (some ⟨C2,0,none⟩)]] 101)
  rw [hW];simpa using this
 have HW:=hide hW
 clear hW
 go_enter Tryz.func40,Tryz.ntmps40
 go_wp2_with fail
 rw [← HW.out]
 refine (PC.out W bel0).mono ?_
 rintro e w2 ⟨rfl,b2⟩
 have A2:=below_block b2 A0
 have F2:=below_block b2 F0
 have T2:=below_block b2 T0
 have S2:=below_block b2 S0
 have bX:Below w.heap.size w w2:=bel0.trans (b2.mono bel0.size)
 clear PC A0 F0 T0 S0
 by_cases h1:C=0
 ·subst h1
  have k1:w2.cell? ⟨w.heap.size,0,none⟩=some (.slice ao n cap):=by simp [World.cell?,A2]
  have k2:w2.cell? ⟨w.heap.size+1+1,0,none⟩=some (.int .i64 time):=by simp [World.cell?,T2]
  have k3:w2.cell? ⟨w.heap.size+1+1+1,0,none⟩=some (.func (.func 102) #[] #[.pointer (some ⟨C1,0,none⟩),.pointer (some ⟨C2,0,none⟩)]):=by simp [World.cell?,S2]
  have HR2:Hid (RES=EE):=by show _=_;rw [HR.out,if_pos rfl]
  have PM2:=hide (PM.out rfl (w.heap.size+1+1) w.heap.size (w.heap.size+1+1+1) w2 bX (by omega) k2 k1 k3)
  obtain ⟨p0,p1,p2,p3,p4,p5,p6⟩:=seven_cells F2
  clear HR PM
  go_wp2_with fail
  refine PM2.out.mono ?_
  rintro e w3 ⟨hp,b3⟩
  have bY:Bel r w.heap.size w w3:=(Bel.of bX r).trans (b3.mono bX.size)
  have HP:=hide hp
  clear hp PM2 p0 p1 p2 p3 p4 p5 p6 k1 k2 k3 A2 F2 T2 S2
  rcases HP.out with ⟨x,hx,ho,he⟩ | ⟨nb,cts,co,N,d,he,ho,hN,hC,hI2⟩
  ·rw [he]
   have HE2:Hid (RES=.error x):=by show _=_;rw [HR2.out,ho]
   have HX:=hide hx
   have hxb:(x != 0)=true:=by simpa using hx
   clear HP ho he HR2 hx
   go_wp2
   go_ret2
   exact ⟨.inl ⟨x,HX.out,HE2.out,rfl⟩,bY.alloc bY.size _⟩
  ·rw [he]
   have HE2:Hid (RES=.ok ⟨nb,cls cts⟩):=by show _=_;rw [HR2.out,ho]
   have HN:=hide hN
   have bz:Below w3.heap.size w3 (w3.alloc (.cells #[.bool nb,.slice co N d] 131)):=(Below.refl _ _).alloc (Nat.le_refl _) _
   have hC2:=hC.below bz
   have HI2:=hide (HKp.out _ _ _ hI2 (bz.mono bY.size))
   clear HP ho he HR2 hN hI2
   go_wp2
   go_ret2
   exact ⟨.inr ⟨nb,cts,co,N,d,rfl,HE2.out,HN.out,hC2,HI2.out⟩,bY.alloc bY.size _⟩
 ·have HR2:Hid (RES=.error C):=by show _=_;rw [HR.out,if_neg h1]
  have hd:(C != 0)=true:=by simpa using h1
  have HX:=hide h1
  clear h1 HR PM
  go_wp2
  go_ret2
  exact ⟨.inl ⟨C,HX.out,HR2.out,rfl⟩,Bel.of bX r⟩
end Go.Proofs.YtoldmigappbjcaaGreatDoor
