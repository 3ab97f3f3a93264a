import Derived.Deep.RegionHeld3
import Derived.Laws.Cover1
import Derived.Test.YtoldmigappbjcaaGreatDoorK05
import Derived.Test.YtoldmigappbjcaaGreatDoorRows
namespace Go.GrainU
open Go.RowKit
def cmpW (x y:ByteArray):Int:=if Op.bytesLess x.toList y.toList=true then -1 else if x=y then 0 else 1
def cmpF (a b:List (ByteArray×ByteArray)):Nat→Nat→Int
 | 0,_=>if a.length<b.length then -1 else 0
 | n+1,k=>if b.length≤k then 1 else if cmpW (lk a k) (lk b k)≠0 then cmpW (lk a k) (lk b k) else if cmpW (lv a k) (lv b k)≠0 then cmpW (lv a k) (lv b k) else cmpF a b n (k+1)
def cmpS (a b:List (ByteArray×ByteArray)):Int:=cmpF a b a.length 0
theorem cmpW_lt {x y:ByteArray} (h:Op.bytesLess x.toList y.toList=true):cmpW x y = -1:=by simp [cmpW,h]
theorem cmpW_eq {x y:ByteArray} (h:Op.bytesLess x.toList y.toList=false) (e:x=y):cmpW x y=0:=by simp only [cmpW,h,if_pos e];rfl
theorem cmpW_gt {x y:ByteArray} (h:Op.bytesLess x.toList y.toList=false) (e:x≠y):cmpW x y=1:=by simp only [cmpW,h,if_neg e];rfl
end Go.GrainU
namespace Go.Proofs.YtoldmigappbjcaaGreatDoor
open Go.RowKit Go.GrainU
end Go.Proofs.YtoldmigappbjcaaGreatDoor
namespace Go.GrainU
open Go.RowKit
theorem less_irrefl:∀ x:List UInt8,Op.bytesLess x x=false
 | []=>rfl
 | a::x=>by
  have h:=less_irrefl x
  simp [Op.bytesLess,h,UInt8.lt_irrefl]
theorem less_asymm:∀ x y:List UInt8,Op.bytesLess x y=true→Op.bytesLess y x=false
 | _,[],h=>by simp [Op.bytesLess] at h
 | [],_::_,_=>rfl
 | a::x,b::y,h=>by
  have ih:=less_asymm x y
  simp only [Op.bytesLess,Bool.or_eq_true,Bool.and_eq_true,decide_eq_true_eq,beq_iff_eq,Bool.or_eq_false_iff,decide_eq_false_iff_not,Bool.and_eq_false_imp] at h ⊢
  rcases h with h | ⟨rfl,h⟩
  ·refine ⟨fun h'=>?_,fun e=>?_⟩
   ·rw [UInt8.lt_iff_toNat_lt] at h h';omega
   ·subst e;exact absurd h (UInt8.lt_irrefl _)
  ·exact ⟨UInt8.lt_irrefl _,fun _=>ih h⟩
theorem less_total:∀ x y:List UInt8,Op.bytesLess x y=false→x≠y→Op.bytesLess y x=true
 | [],[],_,h=>absurd rfl h
 | [],_::_,h,_=>by simp [Op.bytesLess] at h
 | _::_,[],_,_=>rfl
 | a::x,b::y,h,hne=>by
  have ih:=less_total x y
  simp only [Op.bytesLess,Bool.or_eq_true,Bool.and_eq_true,decide_eq_true_eq,beq_iff_eq,Bool.or_eq_false_iff,decide_eq_false_iff_not,Bool.and_eq_false_imp] at h ⊢
  by_cases e:a=b
  ·subst e
   exact .inr ⟨rfl,ih (h.2 rfl) (fun e=>hne (by rw [e]))⟩
  ·left
   have h1:=h.1
   rw [UInt8.lt_iff_toNat_lt] at h1 ⊢
   have:a.toNat≠b.toNat:=fun e'=>e (UInt8.toNat_inj.1 e')
   omega
theorem less_trans:∀ x y z:List UInt8,Op.bytesLess x y=true→Op.bytesLess y z=true→Op.bytesLess x z=true
 | _,[],_,h,_=>by simp [Op.bytesLess] at h
 | _,_::_,[],_,h=>by simp [Op.bytesLess] at h
 | [],_::_,_::_,_,_=>rfl
 | a::x,b::y,c::z,h,h'=>by
  have ih:=less_trans x y z
  simp only [Op.bytesLess,Bool.or_eq_true,Bool.and_eq_true,decide_eq_true_eq,beq_iff_eq] at h h' ⊢
  rcases h with h | ⟨rfl,h⟩
  ·rcases h' with h' | ⟨rfl,_⟩
   ·left;rw [UInt8.lt_iff_toNat_lt] at *;omega
   ·exact .inl h
  ·rcases h' with h' | ⟨rfl,h'⟩
   ·exact .inl h'
   ·exact .inr ⟨rfl,ih h h'⟩
theorem cmpW_cases (x y:ByteArray):(cmpW x y = -1∧Op.bytesLess x.toList y.toList=true)∨(cmpW x y=0∧x=y)∨(cmpW x y=1∧Op.bytesLess y.toList x.toList=true):=by
 cases h:Op.bytesLess x.toList y.toList
 ·by_cases e:x=y
  ·exact .inr (.inl ⟨cmpW_eq h e,e⟩)
  ·exact .inr (.inr ⟨cmpW_gt h e,less_total _ _ h (fun e'=>e (toList_inj e'))⟩)
 ·exact .inl ⟨cmpW_lt h,rfl⟩
theorem cmpW_self (x:ByteArray):cmpW x x=0:=cmpW_eq (less_irrefl _) rfl
theorem cmpW_back (x y:ByteArray):cmpW y x = - cmpW x y:=by
 rcases cmpW_cases x y with ⟨h,h'⟩ | ⟨h,rfl⟩ | ⟨h,h'⟩
 ·have:=less_asymm _ _ h'
  rw [h,cmpW_gt this (fun e=>by subst e;rw [less_irrefl] at h';cases h')];rfl
 ·rw [h];rfl
 ·rw [h,cmpW_lt h']
theorem cmpW_trans {x y z:ByteArray} (h:cmpW x y = -1) (h':cmpW y z = -1):cmpW x z = -1:=by
 rcases cmpW_cases x y with ⟨_,a⟩ | ⟨e,_⟩ | ⟨e,_⟩
 ·rcases cmpW_cases y z with ⟨_,b⟩ | ⟨e,_⟩ | ⟨e,_⟩
  ·exact cmpW_lt (less_trans _ _ _ a b)
  ·omega
  ·omega
 ·omega
 ·omega
def cmpL:List (ByteArray×ByteArray)→List (ByteArray×ByteArray)→Int
 | [],[]=>0
 | [],_::_=>-1
 | _::_,[]=>1
 | x::r,y::t=>if cmpW x.1 y.1≠0 then cmpW x.1 y.1 else if cmpW x.2 y.2≠0 then cmpW x.2 y.2 else cmpL r t
theorem drop_lab {l:List (ByteArray×ByteArray)} {k:Nat} (h:k<l.length):l.drop k=(lk l k,lv l k)::l.drop (k+1):=by
 rw [List.drop_eq_getElem_cons h]
 simp only [lk,lv,List.getD,List.getElem?_eq_getElem h,Option.getD_some]
theorem cmpF_L (a b:List (ByteArray×ByteArray)):∀ n k,k≤b.length→k+n=a.length→cmpF a b n k=cmpL (a.drop k) (b.drop k):=by
 intro n
 induction n with
 | zero =>
  intro k hk h
  rw [cmpF,List.drop_of_length_le (show a.length≤k from by omega)]
  by_cases e:a.length<b.length
  ·rw [if_pos e,drop_lab (show k<b.length from by omega)];rfl
  ·rw [if_neg e,List.drop_of_length_le (show b.length≤k from by omega)];rfl
 | succ n ih =>
  intro k hk h
  rw [cmpF,drop_lab (show k<a.length from by omega)]
  by_cases e:b.length≤k
  ·rw [if_pos e,List.drop_of_length_le e];rfl
  ·rw [if_neg e,drop_lab (show k<b.length from by omega),cmpL,ih (k+1) (by omega) (by omega)]
theorem cmpS_L (a b:List (ByteArray×ByteArray)):cmpS a b=cmpL a b:=by
 unfold cmpS
 rw [cmpF_L a b a.length 0 (by omega) (by omega)]
 simp
theorem cmpL_cases:∀ a b:List (ByteArray×ByteArray),cmpL a b = -1∨(cmpL a b=0∧a=b)∨cmpL a b=1
 | [],[]=>.inr (.inl ⟨rfl,rfl⟩)
 | [],_::_=>.inl rfl
 | _::_,[]=>.inr (.inr rfl)
 | (x,y)::r,(x',y')::t=>by
  have ih:=cmpL_cases r t
  simp only [cmpL]
  rcases cmpW_cases x x' with ⟨h,_⟩ | ⟨h,rfl⟩ | ⟨h,_⟩
  ·left;rw [h];rfl
  ·rw [h,if_neg (by simp)]
   rcases cmpW_cases y y' with ⟨h,_⟩ | ⟨h,rfl⟩ | ⟨h,_⟩
   ·left;rw [h];rfl
   ·rw [h,if_neg (by simp)]
    rcases ih with ih | ⟨ih,rfl⟩ | ih
    ·exact .inl ih
    ·exact .inr (.inl ⟨ih,rfl⟩)
    ·exact .inr (.inr ih)
   ·right;right;rw [h];rfl
  ·right;right;rw [h];rfl
theorem cmpL_self:∀ a:List (ByteArray×ByteArray),cmpL a a=0
 | []=>rfl
 | x::r=>by simp [cmpL,cmpW_self,cmpL_self r]
theorem cmpL_zero (a b:List (ByteArray×ByteArray)):cmpL a b=0↔a=b:=by
 refine ⟨fun h=>?_,fun h=>by rw [h];exact cmpL_self b⟩
 rcases cmpL_cases a b with e | ⟨_,e⟩ | e
 ·omega
 ·exact e
 ·omega
theorem cmpL_back:∀ a b:List (ByteArray×ByteArray),cmpL b a = - cmpL a b
 | [],[]=>rfl
 | [],_::_=>rfl
 | _::_,[]=>rfl
 | x::r,y::t=>by
  have ih:=cmpL_back r t
  simp only [cmpL]
  rw [cmpW_back x.1 y.1,cmpW_back x.2 y.2,ih]
  by_cases h:cmpW x.1 y.1=0
  ·by_cases h':cmpW x.2 y.2=0
   ·simp [h,h']
   ·simp [h,h']
  ·simp [h]
theorem cmpL_trans:∀ a b c:List (ByteArray×ByteArray),cmpL a b = -1→cmpL b c = -1→cmpL a c = -1
 | [],_,[],h,h'=>by
  rename_i b
  cases b with
  | nil=>simp [cmpL] at h
  | cons y t=>simp [cmpL] at h'
 | [],_,_::_,_,_=>rfl
 | _::_,[],_,h,_=>by simp [cmpL] at h
 | _::_,_::_,[],_,h=>by simp [cmpL] at h
 | (x,y)::r,(x',y')::t,(x'',y'')::u,h,h'=>by
  have ih:=cmpL_trans r t u
  simp only [cmpL] at h h' ⊢
  rcases cmpW_cases x x' with ⟨e,_⟩ | ⟨e,rfl⟩ | ⟨e,_⟩
  ·rcases cmpW_cases x' x'' with ⟨f,_⟩ | ⟨f,rfl⟩ | ⟨f,_⟩
   ·rw [cmpW_trans e f];rfl
   ·rw [e];rfl
   ·rw [f] at h';simp at h'
  ·rw [e,if_neg (by simp)] at h
   rcases cmpW_cases x x'' with ⟨f,_⟩ | ⟨f,rfl⟩ | ⟨f,_⟩
   ·rw [f];rfl
   ·rw [f,if_neg (by simp)] at h' ⊢
    rcases cmpW_cases y y' with ⟨e,_⟩ | ⟨e,rfl⟩ | ⟨e,_⟩
    ·rcases cmpW_cases y' y'' with ⟨f,_⟩ | ⟨f,rfl⟩ | ⟨f,_⟩
     ·rw [cmpW_trans e f];rfl
     ·rw [e];rfl
     ·rw [f] at h';simp at h'
    ·rw [e,if_neg (by simp)] at h
     rcases cmpW_cases y y'' with ⟨f,_⟩ | ⟨f,rfl⟩ | ⟨f,_⟩
     ·rw [f];rfl
     ·rw [f,if_neg (by simp)] at h' ⊢
      exact ih h h'
     ·rw [f] at h';simp at h'
    ·rw [e] at h;simp at h
   ·rw [f] at h';simp at h'
  ·rw [e] at h;simp at h
theorem wle_less (x z:ByteArray):Op.bytesLess z.toList x.toList = !wle x z:=by
 unfold wle
 cases h:Op.bytesLess z.toList x.toList with
 | true =>
  have h1:=less_asymm _ _ h
  have h2:(x.toList == z.toList)=false:=by
   rw [beq_eq_false_iff_ne]
   intro e
   rw [e,less_irrefl] at h
   cases h
  rw [h1,h2];rfl
 | false =>
  by_cases e:x.toList=z.toList
  ·rw [e];simp
  ·rw [less_total _ _ h (Ne.symm e)];rfl
end Go.GrainU
namespace Go.Proofs.YtoldmigappbjcaaGreatDoor
open Go.RowKit Go.GrainU
set_option maxHeartbeats 2000000 in
theorem nwrong_any (l:List (ByteArray×ByteArray)) (ao:Option Addr) (n cap:Nat) (w:World) (hs:Seg w ao (lcells l)) (hn:n=l.length) (hf:Fits l) :
  Calls Tryz.prog 44 #[.slice ao n cap] w fun e w'=>e=.returned (.int .i64 (wrongS l))∧Below w.heap.size w w':=by
 by_cases h5:4<n
 ·have hw:wrongS l=5:=by simp [wrongS,← hn,h5]
  rw [hw];clear hw hn
  have hd:decide ((4:Int)<(n:Int))=true:=by simp;omega
  go_enter Tryz.func44,Tryz.ntmps44
  go_wp2
  go_ret
  exact ⟨rfl,Below.refl _ _⟩
 ·have hw:wrongS l=wrongSF l n 0:=by simp [wrongS,← hn,h5]
  rw [hw];clear hw
  have HN:=hide hn
  have HF:=hide hf
  clear hn hf
  have hd:decide ((4:Int)<(n:Int))=false:=by simp;omega
  go_enter Tryz.func44,Tryz.ntmps44
  go_wp2
  go_loopw [10] (fun i wr=>∃ k:Nat,k≤n∧i=.int .i64 k∧Hid (wrongSF l n 0=wrongSF l (n-k) k)∧Below w.heap.size w wr) (fun i _=>n-(intOf i).toNat)
  case atStart=>exact ⟨0,Nat.zero_le _,rfl,rfl,Below.refl _ _⟩
  case round =>
   obtain ⟨k,hk,rfl,HW,bel⟩:=hrel
   have hsz:=bel.size
   by_cases hlt:k<n
   ·have hkl:k<l.length:=by rw [← HN.out];exact hlt
    obtain ⟨b,off,rfl,hb,hcell⟩:=seg_label hs hkl
    obtain ⟨x,hx⟩:∃ x,x=lk l k:=⟨_,rfl⟩
    obtain ⟨y,hy⟩:∃ y,y=lv l k:=⟨_,rfl⟩
    have c0:wr.cell? ⟨b,off+k*2,none⟩=some (.string x):=by rw [hx];exact (bel.cell (by exact hb)).trans (hcell k hkl).1
    have c1:wr.cell? ⟨b,off+k*2+1,none⟩=some (.string y):=by rw [hy];exact (bel.cell (by exact hb)).trans (hcell k hkl).2
    have fx:x.size≤9223372036854775807:=by rw [hx];exact (HF.out k hkl).1
    have fy:y.size≤9223372036854775807:=by rw [hy];exact (HF.out k hkl).2
    have HX:=hide hx
    have HY:=hide hy
    have NO:Hid ((Grain.named x && Grain.named y)=false→wrongSF l n 0=7):=by
     intro h
     have hbad:badS l k=7:=by unfold badS;rw [← HX.out,← HY.out,h];simp
     rw [HW.out,show n-k=(n-k-1)+1 from by omega,wrongSF_no (by rw [hbad];decide),hbad]
    obtain ⟨N1,hN1⟩:∃ N1,N1=Grain.named x:=⟨_,rfl⟩
    obtain ⟨N2,hN2⟩:∃ N2,N2=Grain.named y:=⟨_,rfl⟩
    have H1:=hide hN1
    have H2:=hide hN2
    have HC:=hide hcell
    clear hx hy hkl hN1 hN2 hcell
    go_wp2_with fail
    refine (nnamed_any x _ fx).mono ?_
    rintro e w1 ⟨rfl,hb1⟩
    rw [← H1.out]
    have F1:w1.heap[wr.heap.size]?=some (.cells #[.string x,.string y] 88 (0,0)):=by rw [hb1];exact heap_alloc_new wr _
    obtain ⟨p0,p1,_,_⟩:=two_cells F1
    have bel1:Below w.heap.size w w1:=by rw [hb1];exact bel.alloc hsz _
    have hs1:=bel1.size
    clear hb1 bel c0 c1
    cases N1 with
    | false =>
     have hw:=hide (NO.out (by rw [← H1.out];rfl))
     clear NO HW
     go_wp2
     go_ret
     exact ⟨ret_int hw.out.symm,bel1⟩
    | true =>
     go_wp2_with fail
     refine (nnamed_any y _ fy).mono ?_
     rintro e w2 ⟨rfl,hb2⟩
     rw [← H2.out]
     have F2:w2.heap[wr.heap.size]?=some (.cells #[.string x,.string y] 88 (0,0)):=by rw [hb2];exact F1
     obtain ⟨p0,p1,_,_⟩:=two_cells F2
     have bel2:Below w.heap.size w w2:=by rw [hb2];exact bel1
     clear hb2 bel1
     cases N2 with
     | false =>
      have hw:=hide (NO.out (by rw [← H2.out];simp))
      clear NO HW
      go_wp2
      go_ret
      exact ⟨ret_int hw.out.symm,bel2⟩
     | true =>
      have hgood:Hid ((Grain.named (lk l k) && Grain.named (lv l k))=true):=by
       show (Grain.named (lk l k) && Grain.named (lv l k))=true
       rw [← HX.out,← HY.out,← H1.out,← H2.out];rfl
      clear NO
      rcases Nat.eq_zero_or_pos k with hk0 | hk0
      ·subst hk0
       have hg:decide ((0:Int)<((0:Nat):Int))=false:=by decide
       have hg':decide ((0:Int)<0)=false:=by decide
       have hw:Hid (wrongSF l n 0=wrongSF l (n-(0+1)) (0+1)):=by
        show wrongSF l n 0=wrongSF l (n-(0+1)) (0+1)
        have hbad:badS l 0=0:=by unfold badS;rw [hgood.out];simp
        rw [HW.out,show n-0=(n-(0+1))+1 from by omega,wrongSF_ok hbad]
       clear HW hgood
       go_wp2
       go_quiet (fail)
       go_wp2
       go_roundw
       case rel=>exact ⟨0+1,by omega,by go_num,hw,below_drewN bel2 _⟩
       case measure=>simp [intOf];omega
      ·obtain ⟨m,rfl⟩:∃ m,k=m+1:=⟨k-1,by omega⟩
       have hg:decide ((0:Int)<((m+1:Nat):Int))=true:=by simp
       have hg':decide ((0:Int)<(m:Int)+1)=true:=by simp
       obtain ⟨z,hz⟩:∃ z,z=lk l m:=⟨_,rfl⟩
       have q0:w2.cell? ⟨b,off+m*2,none⟩=some (.string z):=by rw [hz];exact (bel2.cell (by exact hb)).trans (HC.out m (by rw [← HN.out];omega)).1
       cases hle:wle x z with
       | true =>
        have hle':Op.bytesLess z.toList x.toList=false:=by rw [wle_less,hle];rfl
        have hw:Hid (wrongSF l n 0=2):=by
         show wrongSF l n 0=2
         have hbad:badS l (m+1)=2:=by
          unfold badS
          rw [hgood.out,if_neg (by simp),if_pos ⟨by omega,by rw [← HX.out];simpa [← hz] using hle⟩]
         rw [HW.out,show n-(m+1)=(n-(m+1)-1)+1 from by omega,wrongSF_no (by rw [hbad];decide),hbad]
        clear HW hgood hz hle
        go_wp2
        go_quiet (fail)
        go_wp2
        go_ret
        exact ⟨ret_int hw.out.symm,below_drewN bel2 _⟩
       | false =>
        have hle':Op.bytesLess z.toList x.toList=true:=by rw [wle_less,hle];rfl
        have hw:Hid (wrongSF l n 0=wrongSF l (n-(m+1+1)) (m+1+1)):=by
         show wrongSF l n 0=wrongSF l (n-(m+1+1)) (m+1+1)
         have hbad:badS l (m+1)=0:=by
          unfold badS
          rw [hgood.out,if_neg (by simp),if_neg (by rw [← HX.out];simp [← hz,hle])]
         rw [HW.out,show n-(m+1)=(n-(m+1+1))+1 from by omega,wrongSF_ok hbad]
        clear HW hgood hz hle
        go_wp2
        go_quiet (fail)
        go_wp2
        go_roundw
        case rel=>exact ⟨m+1+1,by omega,by go_num,hw,below_drewN bel2 _⟩
        case measure=>simp [intOf];omega
   ·have he:k=n:=by omega
    subst he
    have hw:Hid (wrongSF l k 0=0):=by
     show wrongSF l k 0=0
     rw [HW.out];simp [wrongSF]
    clear HW
    go_wp2
    go_ret
    exact ⟨ret_int hw.out.symm,bel⟩
end Go.Proofs.YtoldmigappbjcaaGreatDoor
