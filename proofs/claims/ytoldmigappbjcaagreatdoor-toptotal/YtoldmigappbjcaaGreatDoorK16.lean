import Derived.Test.YtoldmigappbjcaaGreatDoorK01
import Derived.Test.YtoldmigappbjcaaGreatDoorK02
import Derived.Test.YtoldmigappbjcaaGreatDoorK03
import Derived.Test.YtoldmigappbjcaaGreatDoorK04
import Derived.Test.YtoldmigappbjcaaGreatDoorRows
namespace Go.GrainU
open Go.RowKit
def kc (b:Grain.Bk):List Value:=[.int .i64 b.a,.int .i64 b.s.c,.int .i64 b.s.t,.int .i64 b.s.mn,.int .i64 b.s.mx,.int .i64 b.s.f,.int .i64 b.s.l,.int .i64 b.s.r]
def kcells:List Grain.Bk→List Value
 | []=>[]
 | b::r=>kc b++kcells r
theorem kcells_length (l:List Grain.Bk):(kcells l).length=l.length*8:=by
 induction l with
 | nil=>rfl
 | cons b r ih=>simp only [kcells,List.length_append,List.length_cons,ih,kc,List.length_nil];omega
theorem kcells_append (a b:List Grain.Bk):kcells (a++b)=kcells a++kcells b:=by
 induction a with
 | nil=>rfl
 | cons x r ih=>simp only [List.cons_append,kcells,ih,List.append_assoc]
theorem kcells_snoc (a:List Grain.Bk) (b:Grain.Bk):kcells (a++[b])=kcells a++kc b:=by rw [kcells_append];simp [kcells]
theorem kcells_at (l:List Grain.Bk):∀ k i,k<l.length→i<8→(kcells l)[k*8+i]?=(kc (Grain.bk l k))[i]?:=by
 induction l with
 | nil=>intro k i hk;simp at hk
 | cons b r ih =>
  intro k i hk hi
  have hl:(kc b).length=8:=rfl
  match k with
  | 0 =>
   rw [kcells,List.getElem?_append_left (by omega)]
   simp [Grain.bk]
  | k+1 =>
   rw [kcells,List.getElem?_append_right (by omega),hl,show (k+1)*8+i-8=k*8+i from by omega,ih k i (by simpa using hk) hi]
   simp [Grain.bk]
theorem kcells_one (l:List Grain.Bk):∀ u∈kcells l,u.oneCell'=true:=by
 induction l with
 | nil=>intro u hu;simp [kcells] at hu
 | cons b r ih =>
  intro u hu
  simp only [kcells,List.mem_append] at hu
  rcases hu with e | e
  ·simp [kc] at e
   rcases e with rfl | rfl | rfl | rfl | rfl | rfl | rfl | rfl <;> rfl
  ·exact ih u e
def Cells8 (w:World) (b off:Nat) (k:Grain.Bk):Prop :=
 w.cell? ⟨b,off,none⟩=some (.int .i64 k.a)∧w.cell? ⟨b,off+1,none⟩=some (.int .i64 k.s.c)∧w.cell? ⟨b,off+2,none⟩=some (.int .i64 k.s.t)∧w.cell? ⟨b,off+3,none⟩=some (.int .i64 k.s.mn) ∧
 w.cell? ⟨b,off+4,none⟩=some (.int .i64 k.s.mx)∧w.cell? ⟨b,off+5,none⟩=some (.int .i64 k.s.f)∧w.cell? ⟨b,off+6,none⟩=some (.int .i64 k.s.l)∧w.cell? ⟨b,off+7,none⟩=some (.int .i64 k.s.r)
theorem seg_bucket {w:World} {ao:Option Addr} {l:List Grain.Bk} (h:Seg w ao (kcells l)) {k:Nat} (hk:k<l.length) :
  ∃ b off,ao=some ⟨b,off,none⟩∧b<w.heap.size∧∀ j,j<l.length→Cells8 w b (off+j*8) (Grain.bk l j):=by
 have hs:=kcells_length l
 rcases h with h | ⟨b,off,rfl,h⟩
 ·rw [h] at hs;simp at hs;omega
 ·have hc:∀ j i,j<l.length→i<8→w.cell? ⟨b,off+j*8+i,none⟩=(kc (Grain.bk l j))[i]?:=fun j i hj hi=>by
   rw [Nat.add_assoc,h (j*8+i) (by omega)]
   exact kcells_at l j i hj hi
  refine ⟨b,off,rfl,World.block_lt_of_cell? w ⟨b,off+k*8+0,none⟩ (hc k 0 hk (by omega)),fun j hj=>?_⟩
  exact ⟨hc j 0 hj (by omega),hc j 1 hj (by omega),hc j 2 hj (by omega),hc j 3 hj (by omega),hc j 4 hj (by omega),hc j 5 hj (by omega),hc j 6 hj (by omega),hc j 7 hj (by omega)⟩
theorem Cells8.below {w w':World} {B b off:Nat} {k:Grain.Bk} (h:Cells8 w b off k) (hb:Below B w w') (hl:b<B):Cells8 w' b off k:=by
 obtain ⟨h0,h1,h2,h3,h4,h5,h6,h7⟩:=h
 exact ⟨(hb.cell (p:=⟨b,off,none⟩) hl).trans h0,(hb.cell (p:=⟨b,off+1,none⟩) hl).trans h1,(hb.cell (p:=⟨b,off+2,none⟩) hl).trans h2,(hb.cell (p:=⟨b,off+3,none⟩) hl).trans h3,
  (hb.cell (p:=⟨b,off+4,none⟩) hl).trans h4,(hb.cell (p:=⟨b,off+5,none⟩) hl).trans h5,(hb.cell (p:=⟨b,off+6,none⟩) hl).trans h6,(hb.cell (p:=⟨b,off+7,none⟩) hl).trans h7⟩
theorem own_klen {w:World} {base e N:Nat} {v:Value} {l:List Grain.Bk} (h:w.ownsRow base e 8 v N (kcells l)):N=l.length:=by
 have:=h.1;rw [kcells_length] at this;omega
theorem own_set {w:World} {base e size g n cap:Nat} {xs:List Value} (h:w.ownsRow base e size (.slice (some ⟨g,0,none⟩) n cap) n xs) (j:Nat) (u:Value) :
  (w.setCell ⟨g,j,none⟩ u).ownsRow base e size (.slice (some ⟨g,0,none⟩) n cap) n (xs.set j u):=by
 rcases h with ⟨hl,⟨h0,_⟩ | ⟨g',cap',cur,h0,hb,hg,h1,h2,h3,h4⟩⟩
 ·simp at h0
 ·simp at h0
  obtain ⟨rfl,rfl⟩:=h0
  refine ⟨by simpa using hl,.inr ⟨g,cap,cur.setIfInBounds j u,rfl,hb,?_,h1,h2,by simpa using h3,?_⟩⟩
  ·simp [World.setCell,Array.getElem?_modify,hg]
  ·rw [Array.toList_setIfInBounds,← h4,List.take_set]
theorem kset (R:List Grain.Bk) (A:Int) (q J:Grain.Sm):(((((((kcells (R++[⟨A,q⟩])).set (R.length*8+1) (.int .i64 J.c)).set (R.length*8+2) (.int .i64 J.t)).set (R.length*8+3) (.int .i64 J.mn)).set (R.length*8+4) (.int .i64 J.mx)).set (R.length*8+5) (.int .i64 J.f)).set (R.length*8+6) (.int .i64 J.l)).set (R.length*8+7) (.int .i64 J.r)=kcells (R++[⟨A,J⟩]):=by
 have hl:=kcells_length R
 rw [kcells_snoc,kcells_snoc]
 rw [List.set_append_right _ _ (by omega),List.set_append_right _ _ (by omega),List.set_append_right _ _ (by omega),List.set_append_right _ _ (by omega),List.set_append_right _ _ (by omega),List.set_append_right _ _ (by omega),List.set_append_right _ _ (by omega)]
 rw [hl]
 congr 1
 simp [kc]
def Set7 (w:World) (g o:Nat) (J:Grain.Sm):World :=
 ((((((w.setCell ⟨g,o+1,none⟩ (.int .i64 J.c)).setCell ⟨g,o+2,none⟩ (.int .i64 J.t)).setCell ⟨g,o+3,none⟩ (.int .i64 J.mn)).setCell ⟨g,o+4,none⟩ (.int .i64 J.mx)).setCell ⟨g,o+5,none⟩ (.int .i64 J.f)).setCell ⟨g,o+6,none⟩ (.int .i64 J.l)).setCell ⟨g,o+7,none⟩ (.int .i64 J.r)
theorem own_set7 {w:World} {base e g n cap m:Nat} {R:List Grain.Bk} {A:Int} {q:Grain.Sm} (h:w.ownsRow base e 8 (.slice (some ⟨g,0,none⟩) n cap) n (kcells (R++[⟨A,q⟩]))) (hm:m=R.length) (J:Grain.Sm) :
  (Set7 w g (m*8) J).ownsRow base e 8 (.slice (some ⟨g,0,none⟩) n cap) n (kcells (R++[⟨A,J⟩])):=by
 subst hm
 rw [← kset R A q J]
 exact own_set (own_set (own_set (own_set (own_set (own_set (own_set h _ _) _ _) _ _) _ _) _ _) _ _) _ _
theorem grown_setCell {w w':World} {g o:Nat} {u:Value} (h:w.grownBy w' (some g)):w.grownBy (w'.setCell ⟨g,o,none⟩ u) (some g) :=
 ⟨h.os,h.tape,h.output,by simpa using h.size,fun k hk hne=>by
  rw [setCell_far (by intro e;exact hne (by rw [e]))];exact h.block k hk hne⟩
theorem grown_set7 {w w':World} {g o:Nat} {J:Grain.Sm} (h:w.grownBy w' (some g)):w.grownBy (Set7 w' g o J) (some g) :=
 grown_setCell (grown_setCell (grown_setCell (grown_setCell (grown_setCell (grown_setCell (grown_setCell h))))))
theorem grown_weak {w w':World} {r:Option Nat} (h:w.grownBy w' none):w.grownBy w' r:=⟨h.os,h.tape,h.output,h.size,fun k hk _=>h.block k hk (by simp)⟩
end Go.GrainU
namespace Go.Proofs.YtoldmigappbjcaaGreatDoor
theorem Tryz.infoBucket:(Tryz.prog.info? 145).map (fun i=>(i.zero,i.size,i.bytes))=some (some (.agg #[.int .i64 0,.int .i64 0,.int .i64 0,.int .i64 0,.int .i64 0,.int .i64 0,.int .i64 0,.int .i64 0]),8,64):=by kernel_rfl
open Go.RowKit Go.GrainU
def stepOf (tier:Int):Int:=if tier=1 then 10 else if tier=2 then 60 else 0
set_option maxHeartbeats 400000 in
theorem step_any (tier:Int) (w:World):Calls Tryz.prog 76 #[.int .i64 tier] w fun e w'=>e=.returned (.int .i64 (stepOf tier))∧w'=w:=by
 by_cases h1:tier=1
 ·subst h1
  go_enter Tryz.func76,Tryz.ntmps76
  go_wp2
  go_ret
  exact ⟨ret_int (by simp [stepOf]),rfl⟩
 ·by_cases h2:tier=2
  ·subst h2
   go_enter Tryz.func76,Tryz.ntmps76
   go_wp2
   go_ret
   exact ⟨ret_int (by simp [stepOf]),rfl⟩
  ·have hs:stepOf tier=0:=by simp [stepOf,h1,h2]
   rw [hs]
   have e1:(tier == 1)=false:=by simpa using h1
   have e2:(tier == 2)=false:=by simpa using h2
   clear h1 h2 hs
   go_enter Tryz.func76,Tryz.ntmps76
   go_wp2
   go_ret
   exact ⟨rfl,rfl⟩
set_option maxHeartbeats 400000 in
theorem begin_any (t st:Int) (w:World) (h0:0≤t) (h1:t≤1000000) (hst:st=10∨st=60) :
  Calls Tryz.prog 179 #[.int .i64 t,.int .i64 st] w fun e w'=>e=.returned (.int .i64 (Grain.beg t st))∧w'=w:=by
 rcases hst with rfl | rfl
 all_goals
  go_enter Tryz.func179,Tryz.ntmps179
  go_wp2
  go_ret
  exact ⟨ret_int (by unfold Grain.beg;omega),rfl⟩
def PutPost (base:Nat) (v:Value) (w:World) (Y:List Grain.Bk) (e:Ending) (w':World):Prop :=
 ∃ g n' cap',e=.returned (.slice (some ⟨g,0,none⟩) n' cap')∧w'.ownsRow base 145 8 (.slice (some ⟨g,0,none⟩) n' cap') n' (kcells Y)∧w.grownBy w' v.ownBlock
set_option maxHeartbeats 1000000 in
theorem put_new (X:List Grain.Bk) (A:Int) (s:Grain.Sm) (base n cap:Nat) (ao:Option Addr) (w:World) (own:w.ownsRow base 145 8 (.slice ao n cap) n (kcells X)) (hb:base≤w.heap.size) (hn:n≤1000000) (hoff:Grain.Off X A) :
  Calls Tryz.prog 178 #[.slice ao n cap,.int .i64 A,sv s] w (PutPost base (.slice ao n cap) w (X++[⟨A,s⟩])):=by
 obtain ⟨i0,hi,hz0,hz1,hz2⟩:=info_parts Tryz.infoBucket
 obtain ⟨sc,stt,smn,smx,sf,sl,sr⟩:=s
 have HO:=hide hoff
 clear hoff
 simp only [sv]
 have fin:Hid (∀ (g cap':Nat) (w1:World),w1.ownsRow base 145 8 (.slice (some ⟨g,0,none⟩) (n+1) cap') (n+1) (kcells X++kc ⟨A,⟨sc,stt,smn,smx,sf,sl,sr⟩⟩)→((w.alloc (.cells #[.int .i64 sc,.int .i64 stt,.int .i64 smn,.int .i64 smx,.int .i64 sf,.int .i64 sl,.int .i64 sr] 76)).alloc (.cells #[.int .i64 A,.int .i64 sc,.int .i64 stt,.int .i64 smn,.int .i64 smx,.int .i64 sf,.int .i64 sl,.int .i64 sr] 145)).grownBy w1 (Value.slice ao n cap).ownBlock →
   PutPost base (.slice ao n cap) w (X++[⟨A,⟨sc,stt,smn,smx,sf,sl,sr⟩⟩]) (.returned (.slice (some ⟨g,0,none⟩) (n+1) cap')) w1):=by
  intro g cap' w1 h1 h2
  refine ⟨g,_,cap',rfl,by rw [kcells_snoc];exact h1,?_⟩
  refine grown_trans (grown_trans (World.grownBy_alloc w _ _) (World.grownBy_alloc _ _ none) (fun k h=>by cases h)) h2 (fun k hk=>.inl hk)
 have HL:=hide (own_klen own)
 rcases Grain.snoc_or X with rfl | ⟨R,b,rfl⟩
 ·have hn0:n=0:=HL.out
  subst hn0
  have hg:decide ((0:Int)<((0:Nat):Int))=false:=by decide
  have hg':decide ((0:Int)<0)=false:=by decide
  clear HO HL
  go_enter Tryz.func178,Tryz.ntmps178
  go_wp2_with (at_builtin;refine wpList_append_lies _ rfl _ _ 57 rfl base 145 i0 (.agg #[.int .i64 0,.int .i64 0,.int .i64 0,.int .i64 0,.int .i64 0,.int .i64 0,.int .i64 0,.int .i64 0]) 8 64 Tryz.underlying57 hi hz0 hz1 hz2 rfl (by decide) _ _ _ rfl ((own.alloc _).alloc _) ⟨w.heap.size+1,0,none⟩ 1 1 (kc ⟨A,⟨sc,stt,smn,smx,sf,sl,sr⟩⟩) rfl rfl (World.news_of_block (cs:=#[.int .i64 A,.int .i64 sc,.int .i64 stt,.int .i64 smn,.int .i64 smx,.int .i64 sf,.int .i64 sl,.int .i64 sr]) (t:=145) (fr:=(0,0)) (by simpa using heap_alloc_new (w.alloc _) _)) (by simp [kc,Value.oneCell']) (by decide) (by unfold maxLen;omega) (by omega) (by simp;omega) (w.heap.size+2) (by simp) ?_)
  intro g cap' w1 own1 gr1 hat1 hlt1
  have F:=hide (fin.out g cap' w1 own1 gr1)
  clear fin own1 gr1 hat1 hlt1 own
  go_wp2
  go_ret
  exact F.out
 ·have hlen:n=R.length+1:=by have:=HL.out;simpa using this
  subst hlen
  obtain ⟨ao',c',hao,hseg,_⟩:=own_open own
  simp at hao
  obtain ⟨rfl,rfl⟩:=hao
  obtain ⟨bb,off,rfl,hbl,hc⟩:=seg_bucket hseg (k:=R.length) (by simp)
  have hcell:=(hc R.length (by simp)).1
  have eb:Grain.bk (R++[b]) R.length=b:=by simp [Grain.bk]
  rw [eb] at hcell
  have ne:(b.a == A)=false:=by simpa using HO.out R b rfl
  clear HO HL hc hseg eb
  go_enter Tryz.func178,Tryz.ntmps178
  go_wp2_with (at_builtin;refine wpList_append_lies _ rfl _ _ 57 rfl base 145 i0 (.agg #[.int .i64 0,.int .i64 0,.int .i64 0,.int .i64 0,.int .i64 0,.int .i64 0,.int .i64 0,.int .i64 0]) 8 64 Tryz.underlying57 hi hz0 hz1 hz2 rfl (by decide) _ _ _ rfl ((own.alloc _).alloc _) ⟨w.heap.size+1,0,none⟩ 1 1 (kc ⟨A,⟨sc,stt,smn,smx,sf,sl,sr⟩⟩) rfl rfl (World.news_of_block (cs:=#[.int .i64 A,.int .i64 sc,.int .i64 stt,.int .i64 smn,.int .i64 smx,.int .i64 sf,.int .i64 sl,.int .i64 sr]) (t:=145) (fr:=(0,0)) (by simpa using heap_alloc_new (w.alloc _) _)) (by simp [kc,Value.oneCell']) (by decide) (by unfold maxLen;omega) (by omega) (by simp;omega) (w.heap.size+2) (by simp) ?_)
  intro g cap' w1 own1 gr1 hat1 hlt1
  have F:=hide (fin.out g cap' w1 own1 gr1)
  clear fin own1 gr1 hat1 hlt1 own
  go_wp2
  go_ret
  exact F.out
open Go.RowKit Go.GrainU
theorem kjoin_let (a b:Grain.Sm) (w:World) :
  Calls Tryz.prog 55 #[sv a,sv b] w fun e w'=>∃ J:Grain.Sm,Hid (J=Grain.join a b)∧e=.returned (.agg #[.int .i64 J.c,.int .i64 J.t,.int .i64 J.mn,.int .i64 J.mx,.int .i64 J.f,.int .i64 J.l,.int .i64 J.r])∧Below w.heap.size w w' :=
 (join_any a b w).mono fun _ _ h=>⟨_,rfl,h.1,h.2⟩
theorem own_thaw {w:World} {base e size g n cap:Nat} {xs:List Value} (h:w.ownsRow base e size (.slice (some ⟨g,0,none⟩) n cap) n xs) (j:Nat):w.frozen? ⟨g,j,none⟩=false:=by
 rcases h with ⟨hl,⟨h0,_⟩ | ⟨g',cap',cur,h0,hb,hg,_⟩⟩
 ·simp at h0
 ·simp at h0
  obtain ⟨rfl,rfl⟩:=h0
  simp [World.frozen?,hg]
theorem own_last {w:World} {base e g n cap:Nat} {R:List Grain.Bk} {b:Grain.Bk} (h:w.ownsRow base e 8 (.slice (some ⟨g,0,none⟩) n cap) n (kcells (R++[b]))):Cells8 w g (R.length*8) b:=by
 obtain ⟨bb,off,e1,_,hc⟩:=seg_bucket (own_seg h) (k:=R.length) (by simp)
 simp at e1
 obtain ⟨rfl,rfl⟩:=e1
 have:=hc R.length (by simp)
 rw [Nat.zero_add] at this
 have eb:Grain.bk (R++[b]) R.length=b:=by simp [Grain.bk]
 rw [eb] at this
 exact this
set_option maxHeartbeats 2000000 in
theorem put_old (R:List Grain.Bk) (A:Int) (q s:Grain.Sm) (base n g cap:Nat) (w:World) (own:w.ownsRow base 145 8 (.slice (some ⟨g,0,none⟩) n cap) n (kcells (R++[⟨A,q⟩]))) (hn:n≤1000000) :
  Calls Tryz.prog 178 #[.slice (some ⟨g,0,none⟩) n cap,.int .i64 A,sv s] w (PutPost base (.slice (some ⟨g,0,none⟩) n cap) w (R++[⟨A,Grain.join q s⟩])):=by
 have HL:=own_klen own
 have hlen:n=R.length+1:=by simpa using HL
 subst hlen
 clear HL
 have hgw:=(own_block own).2
 have own1:=own.alloc (.cells #[.int .i64 s.c,.int .i64 s.t,.int .i64 s.mn,.int .i64 s.mx,.int .i64 s.f,.int .i64 s.l,.int .i64 s.r] 76)
 obtain ⟨W,hW⟩:∃ W,W=w.alloc (.cells #[.int .i64 s.c,.int .i64 s.t,.int .i64 s.mn,.int .i64 s.mx,.int .i64 s.f,.int .i64 s.l,.int .i64 s.r] 76):=⟨_,rfl⟩
 have hsb:W.heap[w.heap.size]?=some (.cells #[.int .i64 s.c,.int .i64 s.t,.int .i64 s.mn,.int .i64 s.mx,.int .i64 s.f,.int .i64 s.l,.int .i64 s.r] 76 (0,0)):=by rw [hW];exact heap_alloc_new w _
 rw [← hW] at own1
 have gr1:w.grownBy W (some g):=by rw [hW];exact World.grownBy_alloc w _ _
 have HW:=hide hW
 have hgs:W.heap.size=w.heap.size+1:=by rw [hW];simp
 clear hW
 obtain ⟨c0,c1,c2,c3,c4,c5,c6,c7⟩:=own_last own1
 obtain ⟨s0,s1,s2,s3,s4,s5,s6⟩:=seven_cells hsb
 simp only at c0 c1 c2 c3 c4 c5 c6 c7
 have l0:w.cell? ⟨g,R.length*8,none⟩=some (.int .i64 A):=(own_last own).1
 simp only [sv]
 go_enter Tryz.func178,Tryz.ntmps178
 go_wp2_with fail
 rw [← HW.out]
 clear own l0 HW
 have hw1:IntKind.i64.wrap ((R.length:Int)+1-1)=(R.length:Int):=by rw [IntKind.wrap_i64];omega
 have hw2:IntKind.i64.wrap (R.length:Int)=(R.length:Int):=by rw [IntKind.wrap_i64];omega
 go_region_with
  (first
   | (go_at_call 55;refine (kjoin_let q s _).mono ?_;rintro e w2 ⟨J,HJ,rfl,hb2⟩;have hb2':Below W.heap.size W w2:=(below_drewN (Below.refl _ W) 1).trans hb2;have own2:=own_below own1 hb2';obtain ⟨p0,p1,p2,p3,p4,p5,p6,p7⟩:=own_last own2;have t1:=own_thaw own2 (R.length*8+1);have t2:=own_thaw own2 (R.length*8+2);have t3:=own_thaw own2 (R.length*8+3);have t4:=own_thaw own2 (R.length*8+4);have t5:=own_thaw own2 (R.length*8+5);have t6:=own_thaw own2 (R.length*8+6);have t7:=own_thaw own2 (R.length*8+7);simp only at p0 p1 p2 p3 p4 p5 p6 p7))
 all_goals
  have F:Hid (PutPost base (.slice (some ⟨g,0,none⟩) (R.length+1) cap) w (R++[⟨A,Grain.join q s⟩]) (.returned (.slice (some ⟨g,0,none⟩) (R.length+1) cap)) (Set7 w2 g (R.length*8) J)):=by
   rw [← HJ.out]
   exact ⟨g,_,cap,rfl,own_set7 own2 rfl J,grown_set7 (grown_call gr1 hb2')⟩
  obtain ⟨W3,hW3⟩:∃ W3,W3=Set7 w2 g (R.length*8) J:=⟨_,rfl⟩
  rw [← hW3] at F
  rw [show ((((((((w2.setCell ⟨g,R.length*8+1,none⟩ (.int .i64 J.c)).setCell ⟨g,R.length*8+1+1,none⟩ (.int .i64 J.t)).setCell ⟨g,R.length*8+1+2,none⟩ (.int .i64 J.mn)).setCell ⟨g,R.length*8+1+3,none⟩ (.int .i64 J.mx)).setCell ⟨g,R.length*8+1+4,none⟩ (.int .i64 J.f)).setCell ⟨g,R.length*8+1+5,none⟩ (.int .i64 J.l)).setCell ⟨g,R.length*8+1+6,none⟩ (.int .i64 J.r)))=W3 from hW3.symm]
  clear own1 own2 hb2 hb2' hW3 HJ gr1 hw1 hw2 hgs hsb hgw c0 c1 c2 c3 c4 c5 c6 c7 s0 s1 s2 s3 s4 s5 s6 p0 p1 p2 p3 p4 p5 p6 p7 t1 t2 t3 t4 t5 t6 t7
  go_wp2
  go_ret
  exact F.out
theorem put_any (X:List Grain.Bk) (A:Int) (s:Grain.Sm) (base n cap:Nat) (ao:Option Addr) (w:World) (own:w.ownsRow base 145 8 (.slice ao n cap) n (kcells X)) (hb:base≤w.heap.size) (hn:n≤1000000) :
  Calls Tryz.prog 178 #[.slice ao n cap,.int .i64 A,sv s] w (PutPost base (.slice ao n cap) w (Grain.put X A s)):=by
 rcases Grain.put_cases X A with ho | ⟨R,q,rfl⟩
 ·rw [Grain.put_off ho]
  exact put_new X A s base n cap ao w own hb hn ho
 ·rw [Grain.put_same]
  rcases own.2 with ⟨h0,h1⟩ | ⟨g,cap',cur,h0,_⟩
  ·have:=own_klen own
   simp at this
   omega
  ·simp at h0
   obtain ⟨rfl,rfl⟩:=h0
   exact put_old R A q s base n g cap w own hn
open Go.RowKit Go.GrainU
theorem up_keep {wr V:World} {x y:Value} {t:TypeId} {r:Option Nat} (hV:V=wr.alloc (.cells #[x,y] t)) (hr:∀ k,r=some k→k<wr.heap.size) :
  ∀ w':World,V.grownBy w' r→w'.cell? ⟨wr.heap.size,0,none⟩=some x∧w'.cell? ⟨wr.heap.size,1,none⟩=some y:=by
 intro w' h
 subst hV
 have hb:=h.block wr.heap.size (by simp) (fun e=>by have:=hr _ e.symm;omega)
 rw [heap_alloc_new] at hb
 exact ⟨(two_cells hb).1,(two_cells hb).2.1⟩
set_option maxHeartbeats 2000000 in
theorem up_big (l:List (Int×Int)) (ao:Option Addr) (n cap:Nat) (tier st:Int) (w:World) (hs:Seg w ao (scells l)) (hn:n=l.length) (hL:n≤1000000) (ht:∀ j,j<l.length→0≤Grain.tm l j∧Grain.tm l j≤1000000) (h:stepOf tier=st) (hst:st=10∨st=60) :
  Calls Tryz.prog 135 #[.slice ao n cap,.int .i64 tier] w fun e w'=>∃ bo N c,e=.returned (.slice bo N c)∧w'.ownsRow w.heap.size 145 8 (.slice bo N c) N (kcells (Grain.up l st))∧Below w.heap.size w w':=by
 have HN:=hide hn
 clear hn
 have hst0:(st == 0)=false:=by rcases hst with e | e <;> simp [e]
 have HST:=hide hst
 clear hst
 go_enter Tryz.func135,Tryz.ntmps135
 go_wp2_with (go_at_call 76;refine (step_any tier _).mono ?_;intro e w1 hh;rw [hh.1,hh.2,h];clear hh)
 go_loopw [6,15] (fun out i wr=>∃ (k N c:Nat) (bo:Option Addr),k≤n∧i=.int .i64 k∧out=.slice bo N c∧N≤k∧wr.ownsRow w.heap.size 145 8 (.slice bo N c) N (kcells (Grain.up (l.take k) st))∧Below w.heap.size w wr) (fun _ i _=>n-(intOf i).toNat)
 case atStart=>exact ⟨0,0,0,none,Nat.zero_le _,rfl,rfl,Nat.le_refl _,World.ownsRow_nil _ _ _ _,Below.refl _ _⟩
 case round =>
  obtain ⟨k,N,c,bo,hk,rfl,rfl,hNk,own,bel⟩:=hrel
  have hsz:=bel.size
  by_cases hlt:k<n
  ·have hkl:k<l.length:=by rw [← HN.out];exact hlt
   obtain ⟨b,off,rfl,hcell⟩:=hs.sample hkl
   have hb:b<w.heap.size:=World.block_lt_of_cell? w ⟨b,off+k*2,none⟩ (hcell k hkl).1
   obtain ⟨t,htm⟩:∃ t,t=Grain.tm l k:=⟨_,rfl⟩
   obtain ⟨v,hvl⟩:∃ v,v=Grain.vl l k:=⟨_,rfl⟩
   have c0:wr.cell? ⟨b,off+k*2,none⟩=some (.int .i64 t):=by rw [htm];exact (bel.cell (by exact hb)).trans (hcell k hkl).1
   have c1:wr.cell? ⟨b,off+k*2+1,none⟩=some (.int .i64 v):=by rw [hvl];exact (bel.cell (by exact hb)).trans (hcell k hkl).2
   have ht0:0≤t:=by rw [htm];exact (ht k hkl).1
   have ht1:t≤1000000:=by rw [htm];exact (ht k hkl).2
   have HU:Hid (Grain.up (l.take (k+1)) st=Grain.put (Grain.up (l.take k) st) (Grain.beg t st) (Grain.one v)):=by rw [htm,hvl];exact Grain.up_take st hkl
   clear htm hvl hcell hkl
   obtain ⟨V,hV⟩:∃ V,V=wr.alloc (.cells #[.int .i64 t,.int .i64 v] 34):=⟨_,rfl⟩
   have own1:V.ownsRow w.heap.size 145 8 (.slice bo N c) N (kcells (Grain.up (l.take k) st)):=by rw [hV];exact own.alloc _
   have bel1:Below w.heap.size w V:=by rw [hV];exact bel.alloc hsz _
   have HS:=hide (up_keep (r:=(Value.slice bo N c).ownBlock) hV (fun j hj=>(own.lt j hj).2))
   have R0:V.grownBy V (Value.slice bo N c).ownBlock:=World.grownBy.refl _ _
   obtain ⟨x0,x1⟩:=HS.out V R0
   have HV:=hide hV
   have hszV:=bel1.size
   clear hV
   go_wp2_with fail
   rw [← HV.out]
   go_region_held3 (fun w'=>w'.cell? ⟨wr.heap.size,0,none⟩=some (.int .i64 t)∧w'.cell? ⟨wr.heap.size,1,none⟩=some (.int .i64 v)) (first | go_keep | exact HS.out _ (by assumption))
    (first
     | (go_at_call 179;refine (begin_any _ _ _ ht0 ht1 HST.out).mono ?_;intro e w1 hh;rw [hh.1,hh.2];clear hh)
     | (go_at_call 56;refine (one_any _ _).mono ?_;rintro e w1 ⟨rfl,hb1⟩;have hb1':Below V.heap.size V w1:=(below_drewN (Below.refl _ V) 1).trans hb1;have R1:V.grownBy w1 (Value.slice bo N c).ownBlock:=grown_weak (grown_of_below hb1');have own2:=own_below own1 hb1';have bel2:Below w.heap.size w w1:=bel1.trans (hb1'.mono hszV))
     | (go_at_call 178;refine (put_any _ _ _ w.heap.size N c bo _ own2 bel2.size (by omega)).mono ?_;rintro e w3 ⟨g3,N3,c3,rfl,own3,gr3⟩;have R3:=grown_trans R1 gr3 (fun j hj=>.inl hj);have bel3:Below w.heap.size w w3:=bel2.grown gr3 bel2.size (fun j hj=>(own.lt j hj).1)))
   all_goals
    rw [← HU.out] at own3
    have hN3:N3≤k+1:=by
     have e1:=own_klen own3
     have e2:=(Grain.up_fit st (l.take (k+1)) (by rw [List.length_take];omega)).len
     rw [List.length_take] at e2
     omega
    clear HU HS HV R0 R1 R3 own own1 own2 gr3 hb1 hb1' bel bel1 bel2 x0 x1 hszV hsz c0 c1
    go_wp2
    go_roundw
    case rel=>exact ⟨k+1,N3,c3,_,by omega,by go_num,rfl,hN3,own3,bel3⟩
    case measure=>simp [intOf];omega
  ·have he:k=n:=by omega
   subst he
   have HT:=hide (List.take_of_length_le (i:=k) (l:=l) (by rw [← HN.out];omega))
   rw [HT.out] at own
   clear HT HN
   go_wp2
   go_ret
   exact ⟨bo,N,c,rfl,own,bel⟩
theorem up_yes (l:List (Int×Int)) (ao:Option Addr) (n cap:Nat) (tier st:Int) (w:World) (hs:Seg w ao (scells l)) (hn:n=l.length) (hL:n≤1000) (ht:∀ j,j<l.length→0≤Grain.tm l j∧Grain.tm l j≤1000000) (h:stepOf tier=st) (hst:st=10∨st=60) :
  Calls Tryz.prog 135 #[.slice ao n cap,.int .i64 tier] w fun e w'=>∃ bo N c,e=.returned (.slice bo N c)∧w'.ownsRow w.heap.size 145 8 (.slice bo N c) N (kcells (Grain.up l st))∧Below w.heap.size w w' :=
 up_big l ao n cap tier st w hs hn (by omega) ht h hst
open Go.RowKit Go.GrainU
def At8 (w:World) (B:Nat) (k:Grain.Bk):Prop :=
 w.cell? ⟨B,0,none⟩=some (.int .i64 k.a)∧w.cell? ⟨B,1,none⟩=some (.int .i64 k.s.c)∧w.cell? ⟨B,2,none⟩=some (.int .i64 k.s.t)∧w.cell? ⟨B,3,none⟩=some (.int .i64 k.s.mn) ∧
 w.cell? ⟨B,4,none⟩=some (.int .i64 k.s.mx)∧w.cell? ⟨B,5,none⟩=some (.int .i64 k.s.f)∧w.cell? ⟨B,6,none⟩=some (.int .i64 k.s.l)∧w.cell? ⟨B,7,none⟩=some (.int .i64 k.s.r)
def ko (k:Grain.Bk):Obj:=.cells #[.int .i64 k.a,.int .i64 k.s.c,.int .i64 k.s.t,.int .i64 k.s.mn,.int .i64 k.s.mx,.int .i64 k.s.f,.int .i64 k.s.l,.int .i64 k.s.r] 145
theorem eight_cells {w:World} {B:Nat} {k:Grain.Bk} (h:w.heap[B]?=some (ko k)):At8 w B k:=by
 unfold ko at h
 simp [At8,World.cell?,h]
theorem gr_keep {wr V:World} {k:Grain.Bk} {r:Option Nat} (hV:V=wr.alloc (ko k)) (hr:∀ j,r=some j→j<wr.heap.size) :
  ∀ w':World,V.grownBy w' r→At8 w' wr.heap.size k:=by
 intro w' h
 subst hV
 have hb:=h.block wr.heap.size (by simp) (fun e=>by have:=hr _ e.symm;omega)
 rw [heap_alloc_new] at hb
 exact eight_cells hb
set_option maxHeartbeats 4000000 in
theorem great_any (B : List Grain.Bk) (ao : Option Addr) (n cap : Nat) (w : World) (hs : Seg w ao (kcells B)) (hn : n = B.length) (hL : n ≤ 1000) (ht : ∀ j, j < B.length → 0 ≤ (Grain.bk B j).a ∧ (Grain.bk B j).a ≤ 1000000) :
    Calls Tryz.prog 138 #[.slice ao n cap] w fun e w' => ∃ bo N c, e = .returned (.slice bo N c) ∧ w'.ownsRow w.heap.size 145 8 (.slice bo N c) N (kcells (Grain.great B)) ∧ Below w.heap.size w w' := by
  have HN := hide hn
  clear hn
  go_enter Tryz.func138, Tryz.ntmps138
  go_wp2
  go_loopw [3, 8] (fun out i wr => ∃ (k N c : Nat) (bo : Option Addr), k ≤ n ∧ i = .int .i64 k ∧ out = .slice bo N c ∧ N ≤ k ∧ wr.ownsRow w.heap.size 145 8 (.slice bo N c) N (kcells (Grain.great (B.take k))) ∧ Below w.heap.size w wr) (fun _ i _ => n - (intOf i).toNat)
  case atStart => exact ⟨0, 0, 0, none, Nat.zero_le _, rfl, rfl, Nat.le_refl _, World.ownsRow_nil _ _ _ _, Below.refl _ _⟩
  case round =>
    obtain ⟨k, N, c, bo, hk, rfl, rfl, hNk, own, bel⟩ := hrel
    have hsz := bel.size
    by_cases hlt : k < n
    · have hkl : k < B.length := by rw [← HN.out]; exact hlt
      obtain ⟨b, off, rfl, hb, hcell⟩ := seg_bucket hs hkl
      obtain ⟨K, hK⟩ : ∃ K, K = Grain.bk B k := ⟨_, rfl⟩
      have hc := (hcell k hkl).below bel hb
      rw [← hK] at hc
      obtain ⟨c0, c1, c2, c3, c4, c5, c6, c7⟩ := hc
      have ht0 : 0 ≤ K.a := by rw [hK]; exact (ht k hkl).1
      have ht1 : K.a ≤ 1000000 := by rw [hK]; exact (ht k hkl).2
      have HU : Hid (Grain.great (B.take (k + 1)) = Grain.put (Grain.great (B.take k)) (Grain.beg K.a 60) K.s) := by rw [hK]; exact Grain.great_take hkl
      clear hK hcell hkl
      obtain ⟨V, hV⟩ : ∃ V, V = wr.alloc (ko K) := ⟨_, rfl⟩
      have own1 : V.ownsRow w.heap.size 145 8 (.slice bo N c) N (kcells (Grain.great (B.take k))) := by rw [hV]; exact own.alloc _
      have bel1 : Below w.heap.size w V := by rw [hV]; exact bel.alloc hsz _
      have HS := hide (gr_keep (r := (Value.slice bo N c).ownBlock) hV (fun j hj => (own.lt j hj).2))
      have R0 : V.grownBy V (Value.slice bo N c).ownBlock := World.grownBy.refl _ _
      have R1 : V.grownBy V.drew (Value.slice bo N c).ownBlock := ⟨rfl, rfl, rfl, Nat.le_refl _, fun _ _ _ => rfl⟩
      obtain ⟨x0, x1, x2, x3, x4, x5, x6, x7⟩ := HS.out V R0
      have own2 : V.drew.ownsRow w.heap.size 145 8 (.slice bo N c) N (kcells (Grain.great (B.take k))) := own_below own1 (below_drewN (Below.refl _ V) 1)
      have bel2 : Below w.heap.size w V.drew := below_drewN bel1 1
      have HV : Hid (V = wr.alloc (.cells #[.int .i64 K.a, .int .i64 K.s.c, .int .i64 K.s.t, .int .i64 K.s.mn, .int .i64 K.s.mx, .int .i64 K.s.f, .int .i64 K.s.l, .int .i64 K.s.r] 145)) := hV
      have hszV := bel1.size
      clear hV
      go_wp2_with fail
      rw [← HV.out]
      go_region_held3 (fun w' => w'.cell? ⟨wr.heap.size, 0, none⟩ = some (.int .i64 K.a) ∧ w'.cell? ⟨wr.heap.size, 1, none⟩ = some (.int .i64 K.s.c) ∧ w'.cell? ⟨wr.heap.size, 2, none⟩ = some (.int .i64 K.s.t) ∧ w'.cell? ⟨wr.heap.size, 3, none⟩ = some (.int .i64 K.s.mn) ∧
  w'.cell? ⟨wr.heap.size, 4, none⟩ = some (.int .i64 K.s.mx) ∧ w'.cell? ⟨wr.heap.size, 5, none⟩ = some (.int .i64 K.s.f) ∧ w'.cell? ⟨wr.heap.size, 6, none⟩ = some (.int .i64 K.s.l) ∧ w'.cell? ⟨wr.heap.size, 7, none⟩ = some (.int .i64 K.s.r)) (first | go_keep | exact HS.out _ (by assumption))
        (first
          | (go_at_call 179; refine (begin_any _ _ _ ht0 ht1 (.inr rfl)).mono ?_; intro e w1 hh; rw [hh.1, hh.2]; clear hh)
          | (go_at_call 178; refine (put_any _ _ K.s w.heap.size N c bo _ own2 bel2.size (by omega)).mono ?_; rintro e w3 ⟨g3, N3, cp3, rfl, own3, gr3⟩; have R3 := grown_trans R1 gr3 (fun j hj => .inl hj); have bel3 : Below w.heap.size w w3 := bel2.grown gr3 bel2.size (fun j hj => (own.lt j hj).1)))
      all_goals
        rw [← HU.out] at own3
        have hN3 : N3 ≤ k + 1 := by
          have e1 := own_klen own3
          have e2 := Grain.great_len (B.take (k + 1))
          rw [List.length_take] at e2
          omega
        clear HU HS HV R0 R1 R3 own own1 own2 gr3 bel bel1 bel2 x0 x1 x2 x3 x4 x5 x6 x7 hszV hsz c0 c1 c2 c3 c4 c5 c6 c7
        go_wp2
        go_roundw
        case rel => exact ⟨k + 1, N3, cp3, _, by omega, by go_num, rfl, hN3, own3, bel3⟩
        case measure => simp [intOf]; omega
    · have he : k = n := by omega
      subst he
      have HT := hide (List.take_of_length_le (i := k) (l := B) (by rw [← HN.out]; omega))
      rw [HT.out] at own
      clear HT HN
      go_wp2
      go_ret
      exact ⟨bo, N, c, rfl, own, bel⟩
open Go.RowKit Go.GrainU
def kv (k:Grain.Bk):Value:=.agg #[.int .i64 k.a,.int .i64 k.s.c,.int .i64 k.s.t,.int .i64 k.s.mn,.int .i64 k.s.mx,.int .i64 k.s.f,.int .i64 k.s.l,.int .i64 k.s.r]
set_option maxHeartbeats 1000000 in
theorem kinRange_any (k:Grain.Bk) (st:Int) (w:World) (hst:st=10∨st=60) :
  Calls Tryz.prog 77 #[kv k,.int .i64 st] w fun e w'=>e=.returned (.bool (Grain.inRB k st))∧Below w.heap.size w w':=by
 obtain ⟨a,s⟩:=k
 obtain ⟨sc,s1,s2,s3,s4,s5,s6⟩:=s
 simp only [kv]
 by_cases h0:0≤a
 ·by_cases h1:a≤1000000
  ·rcases hst with rfl | rfl
   all_goals
    go_enter Tryz.func77,Tryz.ntmps77
    go_wp2
    all_goals
     go_ret
     refine ⟨ret_bool ?_,(Below.refl _ _).alloc (Nat.le_refl _) _⟩
     rw [Bool.eq_iff_iff]
     simp [Grain.inRB]
     omega
  ·go_enter Tryz.func77,Tryz.ntmps77
   go_wp2
   go_ret
   refine ⟨ret_bool ?_,(Below.refl _ _).alloc (Nat.le_refl _) _⟩
   rw [Bool.eq_iff_iff]
   simp [Grain.inRB]
   omega
 ·go_enter Tryz.func77,Tryz.ntmps77
  go_wp2
  go_ret
  refine ⟨ret_bool ?_,(Below.refl _ _).alloc (Nat.le_refl _) _⟩
  rw [Bool.eq_iff_iff]
  simp [Grain.inRB]
  omega
theorem kstep_cases (tier:Int):stepOf tier=0∨(stepOf tier=10∨stepOf tier=60):=by
 unfold stepOf
 split
 ·exact .inr (.inl rfl)
 ·split
  ·exact .inr (.inr rfl)
  ·exact .inl rfl
set_option maxHeartbeats 2000000 in
theorem kwrong_any (B:List Grain.Bk) (ao:Option Addr) (n cap:Nat) (tier:Int) (w:World) (hs:Seg w ao (kcells B)) (hn:n=B.length) :
  Calls Tryz.prog 46 #[.slice ao n cap,.int .i64 tier] w fun e w'=>e=.returned (.agg #[.int .i64 (Grain.wrongB B (stepOf tier)).1,.int .i64 (Grain.wrongB B (stepOf tier)).2])∧Below w.heap.size w w':=by
 obtain ⟨st,hst⟩:∃ st,st=stepOf tier:=⟨_,rfl⟩
 have hc:=kstep_cases tier
 rw [← hst] at hc ⊢
 have HST:=hide hst
 clear hst
 rcases hc with hc | hc
 ·subst hc
  have hw:Grain.wrongB B 0=(1,0):=by simp [Grain.wrongB]
  rw [hw];clear hw
  go_enter Tryz.func46,Tryz.ntmps46
  go_wp2_with (go_at_call 76;refine (step_any tier _).mono ?_;intro e w1 hh;rw [hh.1,hh.2,← HST.out];clear hh)
  exact bodyPost_ret (v:=.agg #[.int .i64 1,.int .i64 0]) (by simp [results,Tryz.results46,go_sem]) rfl ⟨rfl,by go_grown⟩
 ·have hst0:(st == 0)=false:=by rcases hc with e | e <;> simp [e]
  have hst1:st≠0:=by rcases hc with e | e <;> simp [e]
  have HC:=hide hc
  clear hc
  by_cases h5:500<n
  ·have hw:Grain.wrongB B st=(5,0):=by simp [Grain.wrongB,hst1,← hn,h5]
   rw [hw];clear hw hn
   have hd:decide ((500:Int)<(n:Int))=true:=by simp;omega
   go_enter Tryz.func46,Tryz.ntmps46
   go_wp2_with (go_at_call 76;refine (step_any tier _).mono ?_;intro e w1 hh;rw [hh.1,hh.2,← HST.out];clear hh)
   exact bodyPost_ret (v:=.agg #[.int .i64 5,.int .i64 0]) (by simp [results,Tryz.results46,go_sem]) rfl ⟨rfl,by go_grown⟩
  ·have hw:Grain.wrongB B st=Grain.wrongBF B st n 0:=by simp [Grain.wrongB,hst1,← hn,h5]
   rw [hw];clear hw
   have HN:=hide hn
   clear hn
   have hd:decide ((500:Int)<(n:Int))=false:=by simp;omega
   go_enter Tryz.func46,Tryz.ntmps46
   go_wp2_with (go_at_call 76;refine (step_any tier _).mono ?_;intro e w1 hh;rw [hh.1,hh.2,← HST.out];clear hh)
   go_loopw [19] (fun i wr=>∃ k:Nat,k≤n∧i=.int .i64 k∧Hid (Grain.wrongBF B st n 0=Grain.wrongBF B st (n-k) k)∧wr.heap[w.heap.size]?=some (.cells #[.int .i64 0,.int .i64 0] 43 (0,0))∧Below w.heap.size w wr) (fun i _=>n-(intOf i).toNat)
   case atStart=>exact ⟨0,Nat.zero_le _,rfl,rfl,heap_alloc_new w _,by go_grown⟩
   case round =>
    obtain ⟨k,hk,rfl,HW,hres,hbel⟩:=hrel
    by_cases hlt:k<n
    ·have hkl:k<B.length:=by rw [← HN.out];exact hlt
     obtain ⟨b,off,rfl,hb,hcell⟩:=seg_bucket hs hkl
     obtain ⟨K,hK⟩:∃ K,K=Grain.bk B k:=⟨_,rfl⟩
     have q:=(hcell k hkl).below hbel hb
     rw [← hK] at q
     obtain ⟨c0,c1,c2,c3,c4,c5,c6,c7⟩:=q
     have hB:w.heap.size<wr.heap.size:=lt_of_block hres
     have HK:=hide hK
     clear hK
     go_wp2_with fail
     refine (kinRange_any K st _ HC.out).mono ?_
     rintro e w1 ⟨rfl,hb1⟩
     obtain ⟨hc1,hf1⟩:=bcell hb1
     have hres1:w1.heap[w.heap.size]?=some (.cells #[.int .i64 0,.int .i64 0] 43 (0,0)):=by
      rw [hb1.block _ (by simp;omega),Below.heap_alloc _ _ _ hB];exact hres
     have hbel1:Below w.heap.size w w1:=(hbel.alloc (by omega) _).trans (hb1.mono (by simp;omega))
     obtain ⟨r0,r1,r2,r3⟩:=two_cells hres1
     have x0:w1.cell? ⟨wr.heap.size,0,none⟩=some (.int .i64 K.a):=by
      rw [hc1 _ _ (by simp)];exact (eight_cells (k:=K) (heap_alloc_new wr _)).1
     clear hc1 hf1 hb1 c0 c1 c2 c3 c4 c5 c6 c7 hres hbel
     cases hin:Grain.inRB K st
     ·have hw:Hid (Grain.wrongBF B st n 0=(3,(k:Int))):=by
       show Grain.wrongBF B st n 0=(3,(k:Int))
       have hbad:Grain.badB B st k=3:=by unfold Grain.badB;rw [← HK.out,hin];simp
       rw [HW.out,show n-k=(n-k-1)+1 from by omega,Grain.wrongBF_no (by rw [hbad];decide),hbad]
      clear HW hin
      go_wp2
      exact bodyPost_ret (v:=.agg #[.int .i64 3,.int .i64 k]) (by simp [results,Tryz.results46,go_sem,r0,r1]) rfl ⟨by rw [hw.out],(hbel1.setCell (Nat.le_refl _) _).setCell (Nat.le_refl _) _⟩
     ·rcases Nat.eq_zero_or_pos k with hk0 | hk0
      ·subst hk0
       have hg:decide ((0:Int)<((0:Nat):Int))=false:=by decide
       have hg':decide ((0:Int)<0)=false:=by decide
       have hw:Hid (Grain.wrongBF B st n 0=Grain.wrongBF B st (n-(0+1)) (0+1)):=by
        show Grain.wrongBF B st n 0=Grain.wrongBF B st (n-(0+1)) (0+1)
        have hbad:Grain.badB B st 0=0:=by unfold Grain.badB;rw [← HK.out,hin];simp
        rw [HW.out,show n-0=(n-(0+1))+1 from by omega,Grain.wrongBF_ok hbad]
       clear HW hin
       go_wp2
       go_quiet (fail)
       go_wp2
       go_roundw
       case rel=>exact ⟨0+1,by omega,by go_num,hw,hres1,below_drewN hbel1 _⟩
       case measure=>simp [intOf];omega
      ·obtain ⟨m,rfl⟩:∃ m,k=m+1:=⟨k-1,by omega⟩
       have hg:decide ((0:Int)<((m+1:Nat):Int))=true:=by simp
       have hg':decide ((0:Int)<(m:Int)+1)=true:=by simp
       obtain ⟨M,hM⟩:∃ M,M=(Grain.bk B m).a:=⟨_,rfl⟩
       have hw2:Hid (K.a≤M→Grain.wrongBF B st n 0=(2,((m:Int)+1))):=by
        intro hle
        have hbad:Grain.badB B st (m+1)=2:=by
         unfold Grain.badB
         rw [← HK.out,hin,if_neg (by simp),if_pos ⟨by omega,by simpa [← hM] using hle⟩]
        rw [HW.out,show n-(m+1)=(n-(m+1)-1)+1 from by omega,Grain.wrongBF_no (by rw [hbad];decide),hbad]
        simp
       have hw:Hid (M<K.a→Grain.wrongBF B st n 0=Grain.wrongBF B st (n-(m+1+1)) (m+1+1)):=by
        intro hle
        have hbad:Grain.badB B st (m+1)=0:=by
         unfold Grain.badB
         rw [← HK.out,hin,if_neg (by simp),if_neg (by simp [← hM];omega)]
        rw [HW.out,show n-(m+1)=(n-(m+1+1))+1 from by omega,Grain.wrongBF_ok hbad]
       have p0:w1.cell? ⟨b,off+m*8,none⟩=some (.int .i64 M):=by
        rw [hM];exact ((hcell m (by omega)).below hbel1 hb).1
       clear HW hin hM hcell
       go_wp2
       go_quiet (fail)
       go_wp2
       ·exact bodyPost_ret (v:=.agg #[.int .i64 2,.int .i64 ((m:Int)+1)]) (by simp [results,Tryz.results46,go_sem,r0,r1]) rfl ⟨by rw [hw2.out (by assumption)],((below_drewN hbel1 _).setCell (Nat.le_refl _) _).setCell (Nat.le_refl _) _⟩
       ·go_roundw
        case rel=>exact ⟨m+1+1,by omega,by go_num,hw.out (by assumption),hres1,below_drewN hbel1 _⟩
        case measure=>simp [intOf];omega
    ·obtain ⟨r0,r1,r2,r3⟩:=two_cells hres
     have he:k=n:=by omega
     subst he
     have hw:Hid (Grain.wrongBF B st k 0=(0,0)):=by
      show Grain.wrongBF B st k 0=(0,0)
      rw [HW.out];simp [Grain.wrongBF]
     clear HW
     go_wp2
     exact bodyPost_ret (v:=.agg #[.int .i64 0,.int .i64 0]) (by simp [results,Tryz.results46,go_sem,r0,r1]) rfl ⟨by rw [hw.out],(hbel.setCell (Nat.le_refl _) _).setCell (Nat.le_refl _) _⟩
open Go.RowKit Go.GrainU
theorem kof_more {w wr:World} {s:Grain.Sm} (I:OfInv w wr s) (o:Obj):OfInv w (wr.alloc o) s:=by
 have h2:=lt_of_block I.cur
 have h1:=lt_of_block I.res
 refine ⟨?_,?_,I.bel.alloc (by omega) _⟩
 ·show (wr.alloc _).heap[_]?=_
  rw [Below.heap_alloc _ _ _ h1];exact I.res
 ·show (wr.alloc _).heap[_]?=_
  rw [Below.heap_alloc _ _ _ h2];exact I.cur
set_option maxHeartbeats 2000000 in
theorem kof_any (B:List Grain.Bk) (ao:Option Addr) (n cap:Nat) (f t:Int) (w:World) (hs:Seg w ao (kcells B)) (hn:n=B.length) (hL:n≤1000000) :
  Calls Tryz.prog 237 #[.slice ao n cap,.int .i64 f,.int .i64 t] w fun e w'=>∃ J:Grain.Sm,Hid (J=Grain.inB B f t)∧e=.returned (.agg #[.int .i64 J.c,.int .i64 J.t,.int .i64 J.mn,.int .i64 J.mx,.int .i64 J.f,.int .i64 J.l,.int .i64 J.r])∧Below w.heap.size w w':=by
 have HN:=hide hn
 clear hn
 go_enter Tryz.func237,Tryz.ntmps237
 go_wp2
 go_loopw [12] (fun i wr=>∃ (k:Nat) (s:Grain.Sm),k≤n∧i=.int .i64 k∧Hid (s=Grain.inB (B.take k) f t)∧OfInv w wr s) (fun i _=>n-(intOf i).toNat)
 case atStart=>exact ⟨0,_,Nat.zero_le _,rfl,rfl,OfInv.start w⟩
 case round =>
  obtain ⟨k,s,hk,rfl,HS,I⟩:=hrel
  by_cases hlt:k<n
  ·have hkl:k<B.length:=by rw [← HN.out];exact hlt
   obtain ⟨b,off,rfl,hb,hcell⟩:=seg_bucket hs hkl
   obtain ⟨K,hK⟩:∃ K,K=Grain.bk B k:=⟨_,rfl⟩
   have q:=(hcell k hkl).below I.bel hb
   rw [← hK] at q
   obtain ⟨c0,c1,c2,c3,c4,c5,c6,c7⟩:=q
   have HT:Hid (Grain.inB (B.take (k+1)) f t=if f≤K.a∧K.a<t then Grain.join s K.s else s):=by
    show _=_
    rw [Grain.inB_take f t hkl,← hK,← HS.out]
   have I1:=kof_more I (ko K)
   have hw1:w.heap.size+1<wr.heap.size:=lt_of_block I.cur
   obtain ⟨s0,s1,s2,s3,s4,s5,s6⟩:=I.cur.cells
   clear hcell hK hkl HS I
   by_cases h1:f≤K.a
   ·by_cases h2:K.a<t
    ·go_wp2_with fail
     refine (join_let s K.s _).mono ?_
     rintro e w2 ⟨J,HJ,rfl,hb2⟩
     have I3:=I1.call hb2
     obtain ⟨q0,q1,q2,q3,q4,q5,q6⟩:=I3.cur.cells
     obtain ⟨r0,r1,r2,r3,r4,r5,r6⟩:=seven_thaw I3.cur
     have I4:=I3.store J
     have HK:Hid (J=Grain.inB (B.take (k+1)) f t):=by
      show J=_
      rw [HT.out,if_pos ⟨h1,h2⟩];exact HJ.out
     clear HJ HT I1 I3 hb2 s0 s1 s2 s3 s4 s5 s6 c0 c1 c2 c3 c4 c5 c6 c7 h1 h2 hw1
     go_wp2
     go_roundw
     case rel=>exact ⟨k+1,J,by omega,by go_num,HK,I4⟩
     case measure=>simp [intOf];omega
    ·have HK:Hid (s=Grain.inB (B.take (k+1)) f t):=by
      show s=_
      rw [HT.out,if_neg (by omega)]
     clear HT s0 s1 s2 s3 s4 s5 s6
     go_wp2
     go_roundw
     case rel=>exact ⟨k+1,s,by omega,by go_num,HK,I1⟩
     case measure=>simp [intOf];omega
   ·have HK:Hid (s=Grain.inB (B.take (k+1)) f t):=by
     show s=_
     rw [HT.out,if_neg (by omega)]
    clear HT s0 s1 s2 s3 s4 s5 s6
    go_wp2
    go_roundw
    case rel=>exact ⟨k+1,s,by omega,by go_num,HK,I1⟩
    case measure=>simp [intOf];omega
  ·have he:k=n:=by omega
   subst he
   have HT:=hide (List.take_of_length_le (i:=k) (l:=B) (by rw [← HN.out];omega))
   have HJ:Hid (s=Grain.inB B f t):=by
    show s=_
    rw [HS.out,HT.out]
   obtain ⟨s0,s1,s2,s3,s4,s5,s6⟩:=I.cur.cells
   obtain ⟨z0,z1,z2,z3,z4,z5,z6⟩:=seven_cells I.res
   obtain ⟨r0,r1,r2,r3,r4,r5,r6⟩:=seven_thaw I.res
   clear HT HN HS
   go_wp2
   exact bodyPost_ret (v:=sv s) (by simp [results,Tryz.results237,go_sem,sv,z0,z1,z2,z3,z4,z5,z6]) rfl ⟨s,HJ,rfl,below_set7 I.bel (Nat.le_refl _) _ _ _ _ _ _ _⟩
end Go.Proofs.YtoldmigappbjcaaGreatDoor
