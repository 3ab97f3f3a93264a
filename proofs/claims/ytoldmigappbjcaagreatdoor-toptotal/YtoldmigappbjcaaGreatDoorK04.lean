import Derived.Laws.AppendOwn
import Derived.Laws.AppendOwnNone
import Derived.Test.YtoldmigappbjcaaGreatDoorK01
import Derived.Test.YtoldmigappbjcaaGreatDoorRows
namespace Go.GrainU
open Go.RowKit
theorem append_seg {P:Program} {w:World} {ops:Array Oper} {rest:List Oper} {o:Oper} {a:Act} {Q:Exit→Act→World→Prop} (hgd:o.guard=none) (s x:Operand) (t:TypeId)
  (ho:o.op=.call { callee:=.builtin .append,args:=#[s,x],argTypes:=#[t,t] })
  (base:Nat) (e:TypeId) (i:TypeInfo) (z:Value) (size bytes:Nat) (ht:P.underlying t=some (.slice e)) (hi:P.info? e=some i) (hz:i.zero=some z)
  (hsize:i.size=size) (hby:i.bytes=bytes) (hzs:z.cells.size=size) (hsz:0<size)
  (v:Value) (n:Nat) (xs:List Value) (hs:a.eval s=v) (hown:w.ownsRow base e size v n xs)
  (ao:Option Addr) (m c:Nat) (news:List Value) (hx:a.eval x=.slice ao m c) (hao:ao=none→m=0∧c=0) (hseg:Seg w ao news) (hl:news.length=m*size) (h1:∀ u∈news,u.oneCell'=true)
  (h63:n+m≤maxLen) (hbytes:(n+m)*bytes≤140737488355328) (hbase:base≤w.heap.size)
  (h:∀ v' w',w'.ownsRow base e size v' (n+m) (xs++news)→w.grownBy w' v.ownBlock→wpList P ops Q rest (a.put o.dst v') w'):wpList P ops Q (o::rest) a w:=by
 cases ao with
 | none =>
  obtain ⟨rfl,rfl⟩:=hao rfl
  have hn:news=[]:=List.length_eq_zero_iff.mp (by omega)
  subst hn
  refine wpList_append_own_none hgd s x t ho base e i size ht hi v n xs hs hown hx ?_
  exact h v w (by simpa using hown) ⟨rfl,rfl,rfl,Nat.le_refl _,fun _ _ _=>rfl⟩
 | some ad =>
  refine wpList_append_own w hgd s x t ho base e i z size bytes ht hi hz hsize hby hzs hsz v n xs hs hown ad m c news hx hl ?_ h1 h63 hbytes hbase (fun v' w' hr hg _=>h v' w' hr hg)
  rcases hseg with hn | ⟨b,off,e1,hc⟩
  ·subst hn;intro j u hu;simp at hu
  ·simp at e1
   subst e1
   intro j u hu
   have hj:j<news.length:=by
    rcases Nat.lt_or_ge j news.length with h | h
    ·exact h
    ·rw [List.getElem?_eq_none h] at hu;cases hu
   have:=hc j hj
   rw [hu] at this
   rw [show (⟨b,off,none⟩:Addr).add j=⟨b,off+j,none⟩ from by unfold Addr.add;split <;> simp_all]
   exact this
theorem own_open {w:World} {base e size n:Nat} {v:Value} {xs:List Value} (h:w.ownsRow base e size v n xs):∃ ao c,v=.slice ao n c∧Seg w ao xs∧n≤c:=by
 rcases h.2 with ⟨h0,hn⟩ | ⟨g,cap,cur,h0,_,_,hc,_⟩
 ·subst hn
  refine ⟨none,0,h0,.inl ?_,Nat.le_refl _⟩
  exact List.length_eq_zero_iff.mp (by rw [h.1];omega)
 ·subst h0
  exact ⟨_,_,rfl,own_seg h,hc⟩
theorem scells_one (l:List (Int×Int)):∀ u∈scells l,u.oneCell'=true:=by
 induction l with
 | nil=>intro u hu;simp [scells] at hu
 | cons s r ih =>
  intro u hu
  simp only [scells,List.mem_cons] at hu
  rcases hu with e | e | e
  ·subst e;rfl
  ·subst e;rfl
  ·exact ih u e
end Go.GrainU
namespace Go.Proofs.YtoldmigappbjcaaGreatDoor
open Go.RowKit Go.GrainU
set_option maxRecDepth 20000 in
set_option maxHeartbeats 2000000 in
theorem search_any (p:Nat→Bool) (F:Nat) (caps:Array Value) (n:Nat) (w:World) (hn:n≤1000000)
  (hE:Hid (∀ (args:Array Value) (W:World),(callFunc F args).run Tryz.prog W=.ok (.enter F args) W))
  (hF:∀ W i,i<n→Below w.heap.size w W→Calls Tryz.prog F (#[.int .i64 (i:Nat)]++caps) W fun e W'=>e=.returned (.bool (p i))∧Below W.heap.size W W')
  (hmono:∀ a b,a≤b→b<n→p a=true→p b=true) :
  Calls Tryz.prog 238 #[.int .i64 n,.func (.func F) #[] caps] w fun e w'=>∃ r:Nat,r≤n∧Hid ((∀ t,t<r→p t=false)∧∀ t,r≤t→t<n→p t=true)∧e=.returned (.int .i64 r)∧Below w.heap.size w w':=by
 have HF:=hide hF
 have M:=hide hmono
 clear hF hmono
 go_enter Tryz.func238,Tryz.ntmps238
 go_wp2
 go_loopw [5,6] (fun s5 s6 wr=>∃ lo hi:Nat,s5=.int .i64 lo∧s6=.int .i64 hi∧lo≤hi∧hi≤n∧Below w.heap.size w wr∧Hid ((∀ t,t<lo→p t=false)∧∀ t,hi≤t→t<n→p t=true)) (fun s5 s6 _=>(intOf s6).toNat-(intOf s5).toNat)
 case atStart=>exact ⟨0,n,rfl,rfl,Nat.zero_le _,Nat.le_refl _,Below.refl _ _,(⟨fun t ht=>absurd ht (Nat.not_lt_zero _),fun t h1 h2=>by omega⟩:(∀ t,t<0→p t=false)∧∀ t,n≤t→t<n→p t=true)⟩
 case round =>
  obtain ⟨lo,hi,rfl,rfl,hlh,hin,bel,I⟩:=hrel
  have hsz:=bel.size
  by_cases hlt:lo<hi
  ·have hc:=HF.out wr ((lo+hi) / 2) (by omega) bel
   rw [show (((lo+hi) / 2:Nat):Int)=((lo:Int)+(hi:Int)) / 2 by omega] at hc
   have HC:=hide hc
   clear hc
   go_wp2_with fail
   rw [hE.out,Oper.upon_enter]
   refine HC.out.mono ?_
   rintro e w1 ⟨rfl,hb1⟩
   have bel1:Below w.heap.size w w1:=bel.trans (hb1.mono hsz)
   clear hb1 bel HC
   cases hp:p ((lo+hi) / 2)
   ·have I2:Hid ((∀ t,t<(lo+hi) / 2+1→p t=false)∧∀ t,hi≤t→t<n→p t=true):=⟨fun t ht=>(by
     cases h:p t with
     | false=>rfl
     | true=>have:=M.out t ((lo+hi) / 2) (by omega) (by omega) h;rw [hp] at this;cases this),I.out.2⟩
    clear hp I
    go_wp2
    go_roundw
    case rel=>exact ⟨(lo+hi) / 2+1,hi,by go_num,rfl,by omega,hin,bel1,I2⟩
    case measure=>simp [intOf];omega
   ·have I2:Hid ((∀ t,t<lo→p t=false)∧∀ t,(lo+hi) / 2≤t→t<n→p t=true):=⟨I.out.1,fun t ht htn=>M.out ((lo+hi) / 2) t ht htn hp⟩
    clear hp I
    go_wp2
    go_roundw
    case rel=>exact ⟨lo,(lo+hi) / 2,rfl,by go_num,by omega,by omega,bel1,I2⟩
    case measure=>simp [intOf];omega
  ·obtain rfl:hi=lo:=by omega
   go_wp2
   go_ret
   exact ⟨hi,hin,I,rfl,bel⟩
end Go.Proofs.YtoldmigappbjcaaGreatDoor
