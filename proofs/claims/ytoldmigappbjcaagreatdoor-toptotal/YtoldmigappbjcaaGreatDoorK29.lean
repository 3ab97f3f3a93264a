import Derived.Test.YtoldmigappbjcaaGreatDoorK28
namespace Go.GrainU
open Go.RowKit Go.Proofs Go.Lib
theorem heap_drew9 {w:World} {k:Nat} {o:Obj} (h:w.heap[k]?=some o):w.drew.heap[k]?=some o:=h
theorem run_copy9 {P:Program} (w:World) (dT sT ty elem:TypeId) (b o dLen dCap:Nat) (a:Addr) (sLen sCap:Nat) (cs:List Value)
  (hu:P.underlying dT=some (.slice elem)) (hs:(P.info? elem).map (·.size)=some 9) (hn:cs.length=Nat.min sLen dLen*9)
  (hsrc:∀ j v,cs[j]?=some v→w.cell? (a.add j)=some v) (hc:∀ j,j<cs.length→(w.cell? ⟨b,o+j,none⟩).isSome=true) (hf:∀ j,j<cs.length→w.frozen? ⟨b,o+j,none⟩=false) (h1:∀ v∈cs,v.oneCell'=true) :
  (Builtin.copy_ #[dT,sT] ty #[.slice (some ⟨b,o,none⟩) dLen dCap,.slice (some a) sLen sCap]).run P w=.ok (goInt (Nat.min sLen dLen)) (w.setCells b o cs):=by
 have hl:=run_loadCells_list (P:=P) w a cs hsrc
 have hst:=run_storeCells_cells (P:=P) b o cs 0 w (by simpa using hc) (by simpa using hf) h1
 cases hq:P.info? elem with
 | none=>simp [hq] at hs
 | some i =>
  have hi:i.size=9:=by simpa [hq] using hs
  simp [Builtin.copy_,run_underlying hu,Builtin.lenOf,Builtin.firstCells,sizeOf,typeInfo,hq,hi,← hn,hl,hst]
theorem ins_cells9 {w:World} {g N p:Nat} {xs vs:List Value} (hl:xs.length=N*9) (hv:vs.length=9) (hp:p≤N) (hc:∀ j,j<xs.length→w.cell? ⟨g,j,none⟩=xs[j]?) (hs:∀ j,j<(N+1)*9→(w.cell? ⟨g,j,none⟩).isSome=true) :
  ∀ j,j<(N+1)*9→((w.setCells g ((p+1)*9) (xs.drop (p*9))).setCells g (p*9) vs).cell? ⟨g,j,none⟩=(xs.take (p*9)++(vs++xs.drop (p*9)))[j]?:=by
 intro j hj
 have hdl:(xs.drop (p*9)).length=N*9-p*9:=by rw [List.length_drop,hl]
 have htl:(xs.take (p*9)).length=p*9:=by rw [List.length_take,hl];omega
 rcases Nat.lt_or_ge j (p*9) with h | h
 ·rw [World.cell?_setCells_out _ _ _ _ _ (fun _ _=>.inl h),World.cell?_setCells_out _ _ _ _ _ (fun _ _=>.inl (by show j<_;omega)),hc j (by omega),List.getElem?_append_left (by omega),List.getElem?_take,if_pos h]
 ·rcases Nat.lt_or_ge j (p*9+9) with h' | h'
  ·have:=World.cell?_setCells_in g vs (p*9) (w.setCells g ((p+1)*9) (xs.drop (p*9))) (fun i hi=>isSome_setCells _ _ _ _ (fun t ht=>hs _ (by omega)) _ (hs _ (by omega))) (j-p*9) (by omega)
   rw [show p*9+(j-p*9)=j by omega] at this
   rw [this,List.getElem?_append_right (by omega),htl,List.getElem?_append_left (by omega),List.getElem?_eq_getElem]
  ·rw [World.cell?_setCells_out _ _ _ _ _ (fun _ _=>.inr (by show _≤j;omega))]
   have:=World.cell?_setCells_in g (xs.drop (p*9)) ((p+1)*9) w (fun i hi=>hs _ (by omega)) (j-(p+1)*9) (by omega)
   rw [show (p+1)*9+(j-(p+1)*9)=j by omega] at this
   rw [this,List.getElem?_append_right (by omega),htl,List.getElem?_append_right (by omega),hv,← List.getElem?_eq_getElem]
   congr 1
   omega
theorem ins_cells29 {w:World} {g N p:Nat} {xs vs:List Value} (hl:xs.length=N*9) (hv:vs.length=9) (hp:p≤N) (hc:∀ j,j<p*9→w.cell? ⟨g,j,none⟩=xs[j]?) (hs:∀ j,j<(N+1)*9→(w.cell? ⟨g,j,none⟩).isSome=true) :
  ∀ j,j<(N+1)*9→((w.setCells g (p*9) vs).drew.setCells g ((p+1)*9) (xs.drop (p*9))).cell? ⟨g,j,none⟩=(xs.take (p*9)++(vs++xs.drop (p*9)))[j]?:=by
 intro j hj
 have hdl:(xs.drop (p*9)).length=N*9-p*9:=by rw [List.length_drop,hl]
 have htl:(xs.take (p*9)).length=p*9:=by rw [List.length_take,hl];omega
 rcases Nat.lt_or_ge j (p*9) with h | h
 ·rw [World.cell?_setCells_out _ _ _ _ _ (fun _ _=>.inl (by show j<_;omega))]
  show (w.setCells g (p*9) vs).cell? _=_
  rw [World.cell?_setCells_out _ _ _ _ _ (fun _ _=>.inl h),hc j h,List.getElem?_append_left (by omega),List.getElem?_take,if_pos h]
 ·rcases Nat.lt_or_ge j (p*9+9) with h' | h'
  ·rw [World.cell?_setCells_out _ _ _ _ _ (fun _ _=>.inl (by show j<_;omega))]
   show (w.setCells g (p*9) vs).cell? _=_
   have:=World.cell?_setCells_in g vs (p*9) w (fun i hi=>hs _ (by omega)) (j-p*9) (by omega)
   rw [show p*9+(j-p*9)=j by omega] at this
   rw [this,List.getElem?_append_right (by omega),htl,List.getElem?_append_left (by omega),List.getElem?_eq_getElem]
  ·have:=World.cell?_setCells_in g (xs.drop (p*9)) ((p+1)*9) (w.setCells g (p*9) vs).drew (fun i hi=>isSome_setCells _ _ _ w (fun t ht=>hs _ (by omega)) _ (hs _ (by omega))) (j-(p+1)*9) (by omega)
   rw [show (p+1)*9+(j-(p+1)*9)=j by omega] at this
   rw [this,List.getElem?_append_right (by omega),htl,List.getElem?_append_right (by omega),hv,← List.getElem?_eq_getElem]
   congr 1
   omega
end Go.GrainU
namespace Go.Proofs.YtoldmigappbjcaaGreatDoor
open Go.RowKit Go.GrainU Go.Lib
def InsPost9 (w:World) (base:Nat) (v:Value) (N p:Nat) (xs vs:List Value) (e:Ending) (w':World):Prop :=
 ∃ g d,e=.returned (.slice (some ⟨g,0,none⟩) (N+1) d)∧w'.ownsRow base 59 9 (.slice (some ⟨g,0,none⟩) (N+1) d) (N+1) (xs.take (p*9)++(vs++xs.drop (p*9)))∧w.grownBy w' v.ownBlock∧(v.ownBlock=some g∨w.heap.size≤g)
theorem Tryz.infoShelf9:(Tryz.prog.info? 59).map (fun i=>(i.zero,i.size,i.bytes))=some (some (.agg #[.slice none 0 0,.slice none 0 0,.slice none 0 0,.slice none 0 0,.int .i64 0,.int .i64 0,.int .i64 0,.int .i64 0,.int .i64 0]),9,136):=by kernel_rfl
set_option maxRecDepth 100000 in
set_option maxHeartbeats 4000000 in
theorem ins_end9 (xs:List Value) (base N d vb:Nat) (co:Option Addr) (v0 v1 v2 v3 v4 v5 v6 v7 v8:Value) (w:World) (own:w.ownsRow base 59 9 (.slice co N d) N xs) (hN:N≤8) (hbase:base≤w.heap.size) (F:w.heap[vb]?=some (.cells #[v0,v1,v2,v3,v4,v5,v6,v7,v8] 59 (0,0))) (h1v:∀ u∈[v0,v1,v2,v3,v4,v5,v6,v7,v8],u.oneCell'=true) :
  Calls Tryz.prog 129 #[.slice co N d,.int .i64 N,.slice (some ⟨vb,0,none⟩) 1 1] w (InsPost9 w base (.slice co N d) N N xs [v0,v1,v2,v3,v4,v5,v6,v7,v8]):=by
 obtain ⟨i0,hi,hz0,hz1,hz2⟩:=info_parts Tryz.infoShelf9
 have hl:xs.length=N*9:=own.1
 have HT:Hid (xs.take (N*9)++([v0,v1,v2,v3,v4,v5,v6,v7,v8]++xs.drop (N*9))=xs++[v0,v1,v2,v3,v4,v5,v6,v7,v8]):=by
  show _=_
  rw [List.take_of_length_le (by omega),List.drop_eq_nil_of_le (by omega)];simp
 have hnw:∀ j u,[v0,v1,v2,v3,v4,v5,v6,v7,v8][j]?=some u→w.cell? ((⟨vb,0,none⟩:Addr).add j)=some u:=by
  intro j u hu
  rw [show (⟨vb,0,none⟩:Addr).add j=⟨vb,0+j,none⟩ from by unfold Addr.add;split <;> simp_all]
  rw [Nat.zero_add]
  simp only [World.cell?,F]
  simpa using hu
 have h1:=h1v
 have HNW:=hide hnw
 have H1:=hide h1
 clear hnw h1 hl
 have hco:∃ a,co=a:=⟨_,rfl⟩
 cases co with
 | none =>
  have hN0:N=0:=by
   rcases own.2 with ⟨_,h⟩ | ⟨g,c,cur,h,_⟩
   ·exact h
   ·cases h
  subst hN0
  have hd0:d=0:=by
   rcases own.2 with ⟨h,_⟩ | ⟨g,c,cur,h,_⟩
   ·simpa using h
   ·cases h
  subst hd0
  go_enter Tryz.func129,Tryz.ntmps129
  go_wp2_with (at_builtin;refine wpList_append_lies _ rfl _ _ 24 rfl base 59 i0 (.agg #[.slice none 0 0,.slice none 0 0,.slice none 0 0,.slice none 0 0,.int .i64 0,.int .i64 0,.int .i64 0,.int .i64 0,.int .i64 0]) 9 136 Tryz.underlying24 hi hz0 hz1 hz2 rfl (by decide) _ _ _ rfl own ⟨vb,0,none⟩ 1 1 [v0,v1,v2,v3,v4,v5,v6,v7,v8] rfl rfl HNW.out H1.out (by decide) (by unfold maxLen;omega) (by omega) hbase w.heap.size rfl ?_)
  intro g cap w' ownZ grZ hatZ hltZ
  go_wp2
  go_ret
  exact ⟨g,cap,rfl,by rw [HT.out];exact ownZ,grZ,by rcases hatZ with h | h;exact .inl h;right;omega⟩
 | some ad =>
  have had:∃ g,ad=⟨g,0,none⟩:=by
   rcases own.2 with ⟨h,_⟩ | ⟨g,c,cur,h,_⟩
   ·cases h
   ·injection h with h1 h2 h3
    injection h1 with h1
    exact ⟨g,h1⟩
  obtain ⟨g0,rfl⟩:=had
  have hcap:=(own_cap own).1
  go_enter Tryz.func129,Tryz.ntmps129
  go_wp2_with (at_builtin;refine wpList_append_lies _ rfl _ _ 24 rfl base 59 i0 (.agg #[.slice none 0 0,.slice none 0 0,.slice none 0 0,.slice none 0 0,.int .i64 0,.int .i64 0,.int .i64 0,.int .i64 0,.int .i64 0]) 9 136 Tryz.underlying24 hi hz0 hz1 hz2 rfl (by decide) _ _ _ rfl own ⟨vb,0,none⟩ 1 1 [v0,v1,v2,v3,v4,v5,v6,v7,v8] rfl rfl HNW.out H1.out (by decide) (by unfold maxLen;omega) (by omega) hbase w.heap.size rfl ?_)
  all_goals
   intro g cap w' ownZ grZ hatZ hltZ
   go_wp2
   go_ret
   exact ⟨g,cap,rfl,by rw [HT.out];exact ownZ,grZ,by rcases hatZ with h | h;exact .inl h;right;omega⟩
set_option maxRecDepth 100000 in
set_option maxHeartbeats 4000000 in
theorem ins_room9 (xs:List Value) (base N d p vb g:Nat) (v0 v1 v2 v3 v4 v5 v6 v7 v8:Value) (w:World) (own:w.ownsRow base 59 9 (.slice (some ⟨g,0,none⟩) N d) N xs) (hp:p<N) (hN:N≤8) (hd:N+1≤d) (F:w.heap[vb]?=some (.cells #[v0,v1,v2,v3,v4,v5,v6,v7,v8] 59 (0,0))) (hne:vb≠g) (h1v:∀ u∈[v0,v1,v2,v3,v4,v5,v6,v7,v8],u.oneCell'=true) (h1c:∀ u∈xs,u.oneCell'=true) :
  Calls Tryz.prog 129 #[.slice (some ⟨g,0,none⟩) N d,.int .i64 p,.slice (some ⟨vb,0,none⟩) 1 1] w (InsPost9 w base (.slice (some ⟨g,0,none⟩) N d) N p xs [v0,v1,v2,v3,v4,v5,v6,v7,v8]):=by
 obtain ⟨i0,hi,hz0,hz1,hz2⟩:=info_parts Tryz.infoShelf9
 have hl:xs.length=N*9:=own.1
 obtain ⟨cur,hcur⟩:∃ cur,w.heap[g]?=some (.cells cur 59 (0,0))∧cur.size=d*9∧base≤g∧d≤maxLen:=by
  rcases own.2 with ⟨h,_⟩ | ⟨g',c,cur,h,hb,hh,h2,h3,h4,_⟩
  ·cases h
  ·injection h with h1 _ h5
   injection h1 with h1
   injection h1 with h1 _ _
   subst h1
   subst h5
   exact ⟨cur,hh,h4,hb,h3⟩
 obtain ⟨hG,hGs,hGb,hGm⟩:=hcur
 have hcs:∀ j,j<xs.length→w.cell? ⟨g,j,none⟩=xs[j]?:=fun j hj=>own.cellAt j (by omega)
 have hsp:∀ j,j<(N+1)*9→(w.cell? ⟨g,j,none⟩).isSome=true:=fun j hj=>by
  simp [World.cell?,hG]
  omega
 have hfz:∀ j,w.frozen? ⟨g,j,none⟩=false:=fun j=>by simp [World.frozen?,hG]
 have q2:w.frozen? ⟨vb,0,none⟩=false:=by simp [World.frozen?,F]
 have hnw:∀ j u,[v0,v1,v2,v3,v4,v5,v6,v7,v8][j]?=some u→w.cell? ((⟨vb,0,none⟩:Addr).add j)=some u:=by
  intro j u hu
  rw [show (⟨vb,0,none⟩:Addr).add j=⟨vb,0+j,none⟩ from by unfold Addr.add;split <;> simp_all]
  rw [Nat.zero_add]
  simp only [World.cell?,F]
  simpa using hu
 have hsz:(Tryz.prog.info? 59).map (·.size)=some 9:=by rw [hi];simp [hz1]
 have hov:∀ lb cb,(callFunc 174 #[.slice (some ⟨vb,0,none⟩) 1 1,.slice (some ⟨g,(p+1)*9,none⟩) lb cb]).run Tryz.prog w=.ok (.value (.bool false)) w:=fun lb cb=>by
  rw [run_callFunc_extern Tryz.func174 (by kernel_rfl) (by kernel_rfl) (by kernel_rfl) (e:=Extern.SlicesOverlaps.overlaps #[24,24] #[4]) (by kernel_rfl),
   Lib.run_overlaps_apart w 24 4 59 Tryz.underlying24 9 (fun w=>by simp [Go.sizeOf,typeInfo,hi,hz1]) ⟨vb,0,none⟩ ⟨g,(p+1)*9,none⟩ 1 1 lb cb hne 59 59 9 (d*9) (by simp [World.shape?,F]) (by simp [World.shape?,hG,hGs]) (by omega) q2 (by simp [World.frozen?,F])]
  rfl
 have hdl:(xs.drop (p*9)).length=(N-p)*9:=by rw [List.length_drop,hl];omega
 have hcp1:∀ ty dc sc,(Builtin.copy_ #[24,24] ty #[.slice (some ⟨g,(p+1)*9,none⟩) (N-p) dc,.slice (some ⟨g,p*9,none⟩) (N+1-p) sc]).run Tryz.prog w.drew=.ok (goInt (Nat.min (N+1-p) (N-p))) (w.drew.setCells g ((p+1)*9) (xs.drop (p*9))):=fun ty dc sc =>
  run_copy9 w.drew _ _ ty 59 g ((p+1)*9) (N-p) dc ⟨g,p*9,none⟩ (N+1-p) sc (xs.drop (p*9)) Tryz.underlying24 hsz (by rw [hdl];simp only [Nat.min_def];split <;> omega)
   (fun j v hj=>by
    rw [Addr.add_lit]
    have hj2:j<(xs.drop (p*9)).length:=by
     rcases Nat.lt_or_ge j (xs.drop (p*9)).length with h | h
     ·exact h
     ·rw [List.getElem?_eq_none h] at hj;cases hj
    rw [List.getElem?_drop] at hj
    exact (hcs (p*9+j) (by omega)).trans hj)
   (fun j hj=>hsp _ (by omega)) (fun j hj=>hfz _) (fun v hv=>h1c v (List.mem_of_mem_drop hv))
 obtain ⟨W1,hW1⟩:∃ W1,W1=w.drew.setCells g ((p+1)*9) (xs.drop (p*9)):=⟨_,rfl⟩
 have hcp2:∀ (W:World),(∀ x,W.cell? x=W1.cell? x)→(∀ x,W.frozen? x=W1.frozen? x)→∀ ty dc,(Builtin.copy_ #[24,24] ty #[.slice (some ⟨g,p*9,none⟩) (N+1-p) dc,.slice (some ⟨vb,0,none⟩) 1 1]).run Tryz.prog W=.ok (goInt (Nat.min 1 (N+1-p))) (W.setCells g (p*9) [v0,v1,v2,v3,v4,v5,v6,v7,v8]):=fun W hWc hWf ty dc =>
  run_copy9 W _ _ ty 59 g (p*9) (N+1-p) dc ⟨vb,0,none⟩ 1 1 [v0,v1,v2,v3,v4,v5,v6,v7,v8] Tryz.underlying24 hsz (by simp only [Nat.min_def];split <;> simp;omega)
   (fun j v hj=>by
    have:=hnw j v hj
    rw [Addr.add_lit] at this ⊢
    rw [hWc,hW1,World.cell?_setCells_out g _ _ _ _ (fun h _=>absurd h hne)]
    exact this)
   (fun j hj=>by rw [hWc,hW1];exact isSome_setCells g _ _ w.drew (fun t ht=>hsp ((p+1)*9+t) (by rw [hdl] at ht;omega)) _ (hsp (p*9+j) (by simp at hj;omega))) (fun j hj=>by rw [hWf,hW1,World.frozen?_setCells];exact hfz _) h1v
 rw [← hW1] at hcp1
 have hw1:IntKind.i64.wrap ((p:Int)+1)=(p:Int)+1:=by rw [IntKind.wrap_i64];omega
 have hw2:IntKind.i64.wrap ((N:Int)+1)=(N:Int)+1:=by rw [IntKind.wrap_i64];omega
 have hz2':¬ ((p:Int)=(N:Int)):=by omega
 have htn:((p:Int)+1).toNat=p+1:=by omega
 have htn2:((N:Int)+1).toNat=N+1:=by omega
 have hb1:(0:Int)≤(p:Int)+1:=by omega
 have hb3:(p:Int)≤(N:Int)+1:=by omega
 have hb5:(p:Int)≤(N:Int):=by omega
 have hb6:p≤N:=by omega
 have hb2:¬ (d=p+1):=by omega
 have hb4:¬ (d=p):=by omega
 have FIN:Hid (InsPost9 w base (.slice (some ⟨g,0,none⟩) N d) N p xs [v0,v1,v2,v3,v4,v5,v6,v7,v8] (.returned (.slice (some ⟨g,0,none⟩) (N+1) d)) (W1.setCells g (p*9) [v0,v1,v2,v3,v4,v5,v6,v7,v8])):=by
  obtain ⟨c1,k1,k2⟩:=setCells_block g (xs.drop (p*9)) ((p+1)*9) w.drew cur _ _ (show w.drew.heap[g]?=_ from hG)
  obtain ⟨c2,k3,k4⟩:=setCells_block g [v0,v1,v2,v3,v4,v5,v6,v7,v8] (p*9) _ c1 _ _ k1
  refine ⟨g,d,rfl,own_of_cells (cur:=c2) (by rw [hW1];exact k3) hGb hd hGm (by omega) ?_ ?_,?_,.inl rfl⟩
  ·simp [hl];omega
  ·intro j hj
   rw [hW1]
   refine ins_cells9 (w:=w.drew) hl rfl (by omega) hcs hsp j ?_
   simp [hl] at hj;omega
  ·rw [hW1]
   exact grown_trans (grown_trans (drew_grown w (some g)) (setCells_grown g _ _ _) (fun k hk=>.inl hk)) (setCells_grown g _ _ _) (fun k hk=>.inl hk)
 have HOV:=hide hov
 have HC1:=hide hcp1
 have HC2:=hide hcp2
 clear hov hcp1 hcp2 hG hGs hGb hGm hcs hsp hfz hnw h1v hdl q2 F own h1c hW1 hl
 go_enter Tryz.func129,Tryz.ntmps129
 have hov:=HOV.out
 go_wp2_with (simp only [hov])
 clear hov
 go_region_law (refine step_copy_runI rfl _ _ 24 24 rfl (.slice (some ⟨g,(p+1)*9,none⟩) (N-p) (d-(p+1))) (.slice (some ⟨g,p*9,none⟩) (N+1-p) (d-p)) (by simp [Act.eval,Act.put]) (by simp [Act.eval,Act.put]) (HC1.out 3 (d-(p+1)) (d-p)) ?_)
 go_wp2_with fail
 rw [HC2.out W1 (fun _=>rfl) (fun _=>rfl) 3 (d-p)]
 simp only [Result.andThen]
 rw [Oper.upon_value]
 go_wp2
 go_ret
 exact FIN.out
set_option maxRecDepth 100000 in
set_option maxHeartbeats 4000000 in
theorem ins_grow9 (xs:List Value) (base N d p vb g:Nat) (vs:List Value) (hv9:vs.length=9) (w:World) (own:w.ownsRow base 59 9 (.slice (some ⟨g,0,none⟩) N d) N xs) (hp:p<N) (hN:N≤8) (hd:d<N+1) (hbase:base≤w.heap.size) (hvl:vb<w.heap.size) (hnw:∀ j v,vs[j]?=some v→w.cell? ⟨vb,0+j,none⟩=some v) (h1v:∀ u∈vs,u.oneCell'=true) (h1c:∀ u∈xs,u.oneCell'=true) :
  Calls Tryz.prog 129 #[.slice (some ⟨g,0,none⟩) N d,.int .i64 p,.slice (some ⟨vb,0,none⟩) 1 1] w (InsPost9 w base (.slice (some ⟨g,0,none⟩) N d) N p xs vs):=by
 obtain ⟨i0,hi,hz0,hz1,hz2⟩:=info_parts Tryz.infoShelf9
 have hl:xs.length=N*9:=own.1
 have hdN:N≤d:=(own_cap own).1
 have hcs:∀ j,j<xs.length→w.cell? ⟨g,j,none⟩=xs[j]?:=fun j hj=>own.cellAt j (by omega)
 have hgl:g<w.heap.size:=(own_block own).2
 have hsz:(Tryz.prog.info? 59).map (·.size)=some 9:=by rw [hi];simp [hz1]
 have hkk:(N:Int)+1-(p:Int)=((N+1-p:Nat):Int):=by omega
 have hik:p+(N+1-p)=N+1:=by omega
 have hold:(Builtin.firstCells i0.size p (.slice (some ⟨g,0,none⟩) p d)).run Tryz.prog w.drew=.ok (xs.take (p*9)).toArray w.drew:=by
  rw [hz1]
  exact run_firstCells_some w.drew 9 p ⟨g,0,none⟩ p d (xs.take (p*9)) (by rw [List.length_take];omega) (fun j v hj=>by
   rw [Addr.add_lit,Nat.zero_add]
   rw [List.getElem?_take] at hj
   split at hj
   ·have hj2:j<xs.length:=by omega
    exact (hcs j hj2).trans hj
   ·cases hj)
 obtain ⟨G,hG⟩:∃ G,G=grownCap w (N+1) d 59:=⟨_,rfl⟩
 obtain ⟨ROW,hROW⟩:∃ ROW:Array Value,ROW=(xs.take (p*9)).toArray++Builtin.zeroCells (Value.agg #[.slice none 0 0,.slice none 0 0,.slice none 0 0,.slice none 0 0,.int .i64 0,.int .i64 0,.int .i64 0,.int .i64 0,.int .i64 0]).cells (N+1-p)++Builtin.zeroCells (Value.agg #[.slice none 0 0,.slice none 0 0,.slice none 0 0,.slice none 0 0,.int .i64 0,.int .i64 0,.int .i64 0,.int .i64 0,.int .i64 0]).cells (G-(N+1)):=⟨_,rfl⟩
 have hrz:∀ ty,(Builtin.append_ #[24,3] ty #[.slice (some ⟨g,0,none⟩) p d,.int .i64 ((N:Int)+1-(p:Int))]).run Tryz.prog w =
   .ok (.slice (some ⟨w.heap.size,0,none⟩) (N+1) G) (w.drew.alloc (.cells ROW 59)):=fun ty=>by
  have h:=Lib.run_append_grow_zeros w 24 3 ty 59 i0 _ .i64 .i64 Tryz.underlying24 Tryz.underlying3 hi hz0 (some ⟨g,0,none⟩) p d (xs.take (p*9)) hold (N+1-p) (by omega) (by omega) (by omega) (by omega) (by rw [hz2];omega) (by rw [hz2,hik];exact growslice_fits hd (by omega))
  rw [hik] at h
  rw [hkk,hROW,hG]
  exact h
 have hGn:N+1≤G:=by rw [hG];exact grownCap_ge w _ _ _
 have hGm:G≤maxLen:=by rw [hG];exact grownCap_le_maxLen w (N+1) d 59 (by unfold maxLen;omega)
 have hRs:ROW.size=G*9:=by
  rw [hROW]
  simp [Builtin.zeroCells,Value.cells,hl]
  omega
 have hR0:∀ j,j<p*9→ROW[j]?=xs[j]?:=fun j hj=>by
  rw [hROW,Array.getElem?_append_left (by simp [Builtin.zeroCells,Value.cells,hl];omega),Array.getElem?_append_left (by simp [hl];omega)]
  simp [hj]
 obtain ⟨W1,hW1⟩:∃ W1,W1=w.drew.alloc (.cells ROW 59):=⟨_,rfl⟩
 have hN1:∀ j,j<(N+1)*9→(W1.cell? ⟨w.heap.size,j,none⟩).isSome=true:=fun j hj=>by
  rw [hW1,World.cell?_alloc_at (w:=w.drew) ROW _ w.heap.size j rfl,Array.getElem?_eq_getElem (by omega)];rfl
 have hN0:∀ j,j<p*9→W1.cell? ⟨w.heap.size,j,none⟩=xs[j]?:=fun j hj=>by
  rw [hW1,World.cell?_alloc_at (w:=w.drew) ROW _ w.heap.size j rfl];exact hR0 j hj
 have hNf:∀ j,W1.frozen? ⟨w.heap.size,j,none⟩=false:=fun j=>by rw [hW1];exact World.frozen?_alloc_at (w:=w.drew) ROW _ w.heap.size j rfl
 have hOg:∀ j,W1.cell? ⟨g,j,none⟩=w.cell? ⟨g,j,none⟩:=fun j=>by rw [hW1,World.cell?_alloc_past (w:=w.drew) _ g j hgl];rfl
 have hOv:∀ j,W1.cell? ⟨vb,j,none⟩=w.cell? ⟨vb,j,none⟩:=fun j=>by rw [hW1,World.cell?_alloc_past (w:=w.drew) _ vb j hvl];rfl
 have hdl:(xs.drop (p*9)).length=(N-p)*9:=by rw [List.length_drop,hl];omega
 have hcpA:∀ (W:World),(∀ x,W.cell? x=W1.cell? x)→(∀ x,W.frozen? x=W1.frozen? x)→∀ ty dc,(Builtin.copy_ #[24,24] ty #[.slice (some ⟨w.heap.size,p*9,none⟩) (N+1-p) dc,.slice (some ⟨vb,0,none⟩) 1 1]).run Tryz.prog W=.ok (goInt (Nat.min 1 (N+1-p))) (W.setCells w.heap.size (p*9) vs):=fun W hWc hWf ty dc =>
  run_copy9 W _ _ ty 59 w.heap.size (p*9) (N+1-p) dc ⟨vb,0,none⟩ 1 1 vs Tryz.underlying24 hsz (by rw [hv9];simp only [Nat.min_def];split <;> omega)
   (fun j v hj=>by rw [Addr.add_lit,hWc,hOv];exact hnw j v hj)
   (fun j hj=>by rw [hWc];exact hN1 _ (by rw [hv9] at hj;omega)) (fun j hj=>by rw [hWf];exact hNf _) h1v
 have hbN:g≠w.heap.size:=by omega
 have hcpB:∀ (W:World),(∀ z,W.frozen? z=(W1.setCells w.heap.size (p*9) vs).frozen? z)→(∀ z,W.cell? z=(W1.setCells w.heap.size (p*9) vs).cell? z)→∀ ty dc sc,(Builtin.copy_ #[24,24] ty #[.slice (some ⟨w.heap.size,(p+1)*9,none⟩) (N-p) dc,.slice (some ⟨g,p*9,none⟩) (N-p) sc]).run Tryz.prog W=.ok (goInt (Nat.min (N-p) (N-p))) (W.setCells w.heap.size ((p+1)*9) (xs.drop (p*9))):=fun W hWf hWc ty dc sc =>
  run_copy9 W _ _ ty 59 w.heap.size ((p+1)*9) (N-p) dc ⟨g,p*9,none⟩ (N-p) sc (xs.drop (p*9)) Tryz.underlying24 hsz (by rw [hdl];simp)
   (fun j v hj=>by
    have hj2:j<(xs.drop (p*9)).length:=by
     rcases Nat.lt_or_ge j (xs.drop (p*9)).length with h | h
     ·exact h
     ·rw [List.getElem?_eq_none h] at hj;cases hj
    rw [Addr.add_lit,hWc,World.cell?_setCells_out _ _ _ _ _ (fun h _=>absurd h hbN),hOg]
    rw [List.getElem?_drop] at hj
    exact (hcs (p*9+j) (by omega)).trans hj)
   (fun j hj=>by rw [hWc];exact isSome_setCells _ _ _ W1 (fun t ht=>hN1 (p*9+t) (by rw [hv9] at ht;omega)) _ (hN1 ((p+1)*9+j) (by omega)))
   (fun j hj=>by rw [hWf,World.frozen?_setCells];exact hNf _) (fun v hv=>h1c v (List.mem_of_mem_drop hv))
 have FIN:Hid (InsPost9 w base (.slice (some ⟨g,0,none⟩) N d) N p xs vs (.returned (.slice (some ⟨w.heap.size,0,none⟩) (N+1) G)) ((W1.setCells w.heap.size (p*9) vs).drew.setCells w.heap.size ((p+1)*9) (xs.drop (p*9)))):=by
  have k0:W1.heap[w.heap.size]?=some (.cells ROW 59 (0,0)):=by rw [hW1];exact heap_alloc_new w.drew _
  obtain ⟨c1,k1,k2⟩:=setCells_block w.heap.size vs (p*9) W1 ROW _ _ k0
  obtain ⟨c2,k3,k4⟩:=setCells_block w.heap.size (xs.drop (p*9)) ((p+1)*9) (W1.setCells w.heap.size (p*9) vs).drew c1 _ _ (heap_drew9 k1)
  refine ⟨w.heap.size,G,rfl,own_of_cells (cur:=c2) k3 hbase hGn hGm (by omega) ?_ ?_,?_,.inr (Nat.le_refl _)⟩
  ·simp [hl,hv9];omega
  ·intro j hj
   refine ins_cells29 (w:=W1) hl hv9 (by omega) hN0 hN1 j ?_
   simp [hl,hv9] at hj;omega
  ·have g1:w.grownBy W1 (some g):=by rw [hW1];exact grown_trans (drew_grown w (some g)) (World.grownBy_alloc w.drew _ none) (fun k hk=>by cases hk)
   have g2:=grown_trans g1 (setCells_grown w.heap.size vs (p*9) W1) (fun k hk=>.inr (by injection hk with hk;omega))
   have g3:=grown_trans g2 (drew_grown _ none) (fun k hk=>by cases hk)
   exact grown_trans g3 (setCells_grown w.heap.size (xs.drop (p*9)) ((p+1)*9) _) (fun k hk=>.inr (by injection hk with hk;omega))
 have HRZ:=hide hrz
 have HCA:=hide hcpA
 have HCB:=hide hcpB
 have hw1:IntKind.i64.wrap ((p:Int)+1)=(p:Int)+1:=by rw [IntKind.wrap_i64];omega
 have hw2:IntKind.i64.wrap ((N:Int)+1)=(N:Int)+1:=by rw [IntKind.wrap_i64];omega
 have hw3:IntKind.i64.wrap ((N:Int)+1-(p:Int))=(N:Int)+1-(p:Int):=by rw [IntKind.wrap_i64];omega
 have hz2':¬ ((p:Int)=(N:Int)):=by omega
 have hz3:(d:Int)<(N:Int)+1:=by omega
 have htn:((p:Int)+1).toNat=p+1:=by omega
 have hb1:(0:Int)≤(p:Int)+1:=by omega
 have hb3:(p:Int)≤(N:Int)+1:=by omega
 have hb5:(p:Int)≤(N:Int):=by omega
 have hb6:p≤N:=by omega
 have hb7:p≤d:=by omega
 have hGi:¬ (G=p):=by omega
 have hGim:¬ (G=p+1):=by omega
 have hci:¬ (d=p):=by omega
 have HG:=hide (And.intro hGn hGm)
 have hb8:p≤N+1:=by omega
 clear hrz hcpA hcpB hGn hGm hRs hR0 hN0 hN1 hNf hOg hOv hdl hkk hik hold hROW hG hcs hgl hvl own h1c h1v hnw hl
 have HRW:Hid (∀ ty,(Builtin.append_ #[24,3] ty #[.slice (some ⟨g,0,none⟩) p d,.int .i64 ((N:Int)+1-(p:Int))]).run Tryz.prog w=.ok (.slice (some ⟨w.heap.size,0,none⟩) (N+1) G) W1):=fun ty=>by rw [hW1];exact HRZ.out ty
 clear HRZ hW1
 go_enter Tryz.func129,Tryz.ntmps129
 go_wp2_with (at_builtin;refine Lib.wpList_append_run _ rfl _ _ _ _ rfl _ _ rfl rfl _ _ (HRW.out _) ?_)
 rw [HCA.out W1 (fun _=>rfl) (fun _=>rfl) 3 (G-p)]
 simp only [Result.andThen]
 rw [Oper.upon_value]
 go_wp2_with fail
 have hn1:=HG.out.1
 go_region_law (refine step_copy_runI rfl _ _ 24 24 rfl (.slice (some ⟨w.heap.size,(p+1)*9,none⟩) (N-p) (G-(p+1))) (.slice (some ⟨g,p*9,none⟩) (N-p) (d-p)) (by simp [Act.eval,Act.put]) (by simp [Act.eval,Act.put]) (HCB.out (W1.setCells w.heap.size (p*9) vs).drew (fun _=>rfl) (fun _=>rfl) 3 (G-(p+1)) (d-p)) ?_)
 go_wp2
 go_ret
 exact FIN.out
theorem ins9_any (xs:List Value) (v0 v1 v2 v3 v4 v5 v6 v7 v8:Value) (base N d p vb:Nat) (co:Option Addr) (w:World) (own:w.ownsRow base 59 9 (.slice co N d) N xs) (hp:p≤N) (hN:N≤8) (hbase:base≤w.heap.size) (F:w.heap[vb]?=some (.cells #[v0,v1,v2,v3,v4,v5,v6,v7,v8] 59 (0,0))) (h1v:∀ u∈[v0,v1,v2,v3,v4,v5,v6,v7,v8],u.oneCell'=true) (h1c:∀ u∈xs,u.oneCell'=true)
  (hne:(Value.slice co N d).ownBlock≠some vb) :
  Calls Tryz.prog 129 #[.slice co N d,.int .i64 p,.slice (some ⟨vb,0,none⟩) 1 1] w (InsPost9 w base (.slice co N d) N p xs [v0,v1,v2,v3,v4,v5,v6,v7,v8]):=by
 by_cases he:p=N
 ·rw [he];exact ins_end9 xs base N d vb co _ _ _ _ _ _ _ _ _ w own hN hbase F h1v
 ·have hg:∃ g,co=some ⟨g,0,none⟩:=by
   rcases own.2 with ⟨_,h⟩ | ⟨g,cp,cur,h,_⟩
   ·omega
   ·injection h with h1 _ _
    exact ⟨g,h1⟩
  obtain ⟨g,rfl⟩:=hg
  by_cases hr:N+1≤d
  ·exact ins_room9 xs base N d p vb g _ _ _ _ _ _ _ _ _ w own (by omega) hN hr F (fun e=>hne (by simp [Value.ownBlock,e])) h1v h1c
  ·exact ins_grow9 xs base N d p vb g _ rfl w own (by omega) hN (by omega) hbase (lt_of_block F) (fun j u hu=>by rw [Nat.zero_add];simp only [World.cell?,F];simpa using hu) h1v h1c
end Go.Proofs.YtoldmigappbjcaaGreatDoor
