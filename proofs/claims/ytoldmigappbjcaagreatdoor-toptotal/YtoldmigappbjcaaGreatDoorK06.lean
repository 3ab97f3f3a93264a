import Derived.Lib.ItoaLen
import Derived.Lib.ItoaNum
import Derived.Lib.Join
import Derived.Test.YtoldmigappbjcaaGreatDoorK05
namespace Go.GrainU
open Go.RowKit
theorem lit_size (l:List UInt8):(lit l).size=l.length:=by simp [lit,ByteArray.size]
theorem has_mem {l:List ByteArray} {x:ByteArray} (h:has l x=true):x∈l:=by
 unfold has at h
 rw [List.any_eq_true] at h
 obtain ⟨y,hy,e⟩:=h
 have:=of_decide_eq_true e
 rw [← this];exact hy
theorem winBad_ok {h:Hd} (k:winBad h=0):has words8 h.word=true∧h.ms.length≤5∧msBad h.ms=0∧1≤h.range∧h.range≤100000:=by
 unfold winBad at k
 split at k
 ·omega
 ·rename_i h1
  split at k
  ·omega
  ·split at k
   ·rename_i h3
    split at k
    ·omega
    ·exact ⟨by simpa using h1,by omega,h3,by omega,by omega⟩
   ·rename_i h3;exact absurd k h3
theorem alone_cases {h:Hd} {k:Nat} (e:alone h k=0):(h.kind=1∧k=0∧0≤h.n∧h.n≤1000000)∨(h.kind=2∧k=0∧winBad h=0)∨(h.kind=3∧k=1∧allBad h=0)∨(h.kind=4∧k=2∧has signs3 h.word=true):=by
 unfold alone at e
 split at e
 ·rename_i h1
  split at e
  ·split at e
   ·omega
   ·exact .inl ⟨h1,by assumption,by omega,by omega⟩
  ·omega
 ·split at e
  ·split at e
   ·exact .inr (.inl ⟨by assumption,by assumption,e⟩)
   ·omega
  ·split at e
   ·split at e
    ·exact .inr (.inr (.inl ⟨by assumption,by assumption,e⟩))
    ·omega
   ·split at e
    ·split at e
     ·split at e
      ·exact .inr (.inr (.inr ⟨by assumption,by assumption,by assumption⟩))
      ·omega
     ·omega
    ·omega
theorem Rt.parts {h:Hd} {kids:List Ex} (r:Rt (.mk h kids)):alone h kids.length=0∧∀ k∈kids,Rt k:=by
 cases r with
 | mk _ _ a b=>exact ⟨a,b⟩
theorem wr_ok:∀ x:Ex,∀ d n,0≤n→(wr x d n).1=0→Rt x∧(wr x d n).2=n+cnt x∧n+cnt x≤100∧d≤20:=by
 refine Ex.ind ?_
 intro h kids ih d n hn e
 have hL:∀ l:List Ex,(∀ k∈l,k∈kids)→∀ m,0≤m→m≤100→(wrL l (d+1) m).1=0→(∀ k∈l,Rt k)∧(wrL l (d+1) m).2=m+cntL l∧m+cntL l≤100:=by
  intro l
  induction l with
  | nil=>intro _ m hm h1 _;exact ⟨fun k hk=>by (cases hk),by simp [wrL,cntL],by simp [cntL];omega⟩
  | cons a r ihr =>
   intro hin m hm h1 e1
   simp only [wrL] at e1 ⊢
   by_cases e2:(wr a (d+1) m).1=0
   ·rw [if_pos e2] at e1 ⊢
    obtain ⟨r1,r2,r3,_⟩:=ih a (hin a (by simp)) (d+1) m hm e2
    rw [r2] at e1 ⊢
    obtain ⟨s1,s2,s3⟩:=ihr (fun k hk=>hin k (by simp [hk])) (m+cnt a) (by omega) r3 e1
    refine ⟨fun k hk=>?_,by rw [s2];simp only [cntL];omega,by simp only [cntL];omega⟩
    rcases List.mem_cons.1 hk with e | e
    ·rw [e];exact r1
    ·exact s1 k e
   ·rw [if_neg e2] at e1;exact absurd e1 e2
 simp only [wr,cnt] at e ⊢
 by_cases h1:100<n+1∨20<d
 ·rw [if_pos h1] at e;simp at e
 ·rw [if_neg h1] at e ⊢
  by_cases h2:alone h kids.length=0
  ·rw [if_pos h2] at e ⊢
   obtain ⟨s1,s2,s3⟩:=hL kids (fun k hk=>hk) (n+1) (by omega) (by omega) e
   exact ⟨.mk h kids h2 s1,by rw [s2];omega,by omega,by omega⟩
  ·rw [if_neg h2] at e;exact absurd e h2
end Go.GrainU
