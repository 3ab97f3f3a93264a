/-
  The walk of ShelfKeeps.
-/
import Derived.Test.YtcgcefnfelmmkaaShPl
import Derived.Test.YtcgcefnfelmmkaaOf
namespace Go.Proofs.Ytcgcefnfelmmkaa
open Go.RowKit Go.GrainU

/-- three rows of samples, each of its own, and a sample in a block -/
structure TY (W3 wr : World) (Y : Nat) (T U : Int) (o1 : Option Addr) (n1 c1 : Nat) (L1 : List (Int × Int)) (o2 : Option Addr) (n2 c2 : Nat) (L2 : List (Int × Int)) (o3 : Option Addr) (n3 c3 : Nat) (L3 : List (Int × Int)) : Prop where
  r1 : wr.ownsRow W3.heap.size 29 2 (.slice o1 n1 c1) n1 (scells L1)
  r2 : wr.ownsRow W3.heap.size 29 2 (.slice o2 n2 c2) n2 (scells L2)
  r3 : wr.ownsRow W3.heap.size 29 2 (.slice o3 n3 c3) n3 (scells L3)
  n12 : ∀ g, (Value.slice o1 n1 c1).ownBlock = some g → (Value.slice o2 n2 c2).ownBlock ≠ some g
  n13 : ∀ g, (Value.slice o1 n1 c1).ownBlock = some g → (Value.slice o3 n3 c3).ownBlock ≠ some g
  n23 : ∀ g, (Value.slice o2 n2 c2).ownBlock = some g → (Value.slice o3 n3 c3).ownBlock ≠ some g
  y1 : (Value.slice o1 n1 c1).ownBlock ≠ some Y
  y2 : (Value.slice o2 n2 c2).ownBlock ≠ some Y
  y3 : (Value.slice o3 n3 c3).ownBlock ≠ some Y
  b : wr.heap[Y]? = some (.cells #[.int .i64 T, .int .i64 U] 29 (0, 0))
  bel : Below W3.heap.size W3 wr

structure TJ (W3 wr : World) (o1 : Option Addr) (n1 c1 : Nat) (L1 : List (Int × Int)) (o2 : Option Addr) (n2 c2 : Nat) (L2 : List (Int × Int)) (o3 : Option Addr) (n3 c3 : Nat) (L3 : List (Int × Int)) : Prop where
  r1 : wr.ownsRow W3.heap.size 29 2 (.slice o1 n1 c1) n1 (scells L1)
  r2 : wr.ownsRow W3.heap.size 29 2 (.slice o2 n2 c2) n2 (scells L2)
  r3 : wr.ownsRow W3.heap.size 29 2 (.slice o3 n3 c3) n3 (scells L3)
  n12 : ∀ g, (Value.slice o1 n1 c1).ownBlock = some g → (Value.slice o2 n2 c2).ownBlock ≠ some g
  n13 : ∀ g, (Value.slice o1 n1 c1).ownBlock = some g → (Value.slice o3 n3 c3).ownBlock ≠ some g
  n23 : ∀ g, (Value.slice o2 n2 c2).ownBlock = some g → (Value.slice o3 n3 c3).ownBlock ≠ some g
  bel : Below W3.heap.size W3 wr

theorem TY.tj {W3 wr : World} {Y : Nat} {T U : Int} {o1 : Option Addr} {n1 c1 : Nat} {L1 : List (Int × Int)} {o2 : Option Addr} {n2 c2 : Nat} {L2 : List (Int × Int)} {o3 : Option Addr} {n3 c3 : Nat} {L3 : List (Int × Int)} (h : TY W3 wr Y T U o1 n1 c1 L1 o2 n2 c2 L2 o3 n3 c3 L3) : TJ W3 wr o1 n1 c1 L1 o2 n2 c2 L2 o3 n3 c3 L3 := ⟨h.r1, h.r2, h.r3, h.n12, h.n13, h.n23, h.bel⟩

theorem TJ.ty {W3 wr : World} (T U : Int) {o1 : Option Addr} {n1 c1 : Nat} {L1 : List (Int × Int)} {o2 : Option Addr} {n2 c2 : Nat} {L2 : List (Int × Int)} {o3 : Option Addr} {n3 c3 : Nat} {L3 : List (Int × Int)} (h : TJ W3 wr o1 n1 c1 L1 o2 n2 c2 L2 o3 n3 c3 L3) : TY W3 (wr.alloc (.cells #[.int .i64 T, .int .i64 U] 29)) wr.heap.size T U o1 n1 c1 L1 o2 n2 c2 L2 o3 n3 c3 L3 := by
  have hb : Below wr.heap.size wr (wr.alloc (.cells #[.int .i64 T, .int .i64 U] 29)) := (Below.refl _ _).alloc (Nat.le_refl _) _
  exact ⟨own_below h.r1 hb, own_below h.r2 hb, own_below h.r3 hb, h.n12, h.n13, h.n23, fun e => by have := (h.r1.lt _ e).2; omega, fun e => by have := (h.r2.lt _ e).2; omega, fun e => by have := (h.r3.lt _ e).2; omega, heap_alloc_new _ _, h.bel.trans (hb.mono h.bel.size)⟩

theorem TY.call {W3 wr w' : World} {Y : Nat} {T U : Int} {o1 : Option Addr} {n1 c1 : Nat} {L1 : List (Int × Int)} {o2 : Option Addr} {n2 c2 : Nat} {L2 : List (Int × Int)} {o3 : Option Addr} {n3 c3 : Nat} {L3 : List (Int × Int)} (h : TY W3 wr Y T U o1 n1 c1 L1 o2 n2 c2 L2 o3 n3 c3 L3) (hb : Below wr.heap.size wr w') : TY W3 w' Y T U o1 n1 c1 L1 o2 n2 c2 L2 o3 n3 c3 L3 :=
  ⟨own_below h.r1 hb, own_below h.r2 hb, own_below h.r3 hb, h.n12, h.n13, h.n23, h.y1, h.y2, h.y3, below_block hb h.b, h.bel.trans (hb.mono h.bel.size)⟩

theorem TY.push1 {W3 wr w' : World} {Y : Nat} {T U : Int} {g' cp' : Nat} {o1 : Option Addr} {n1 c1 : Nat} {L1 : List (Int × Int)} {o2 : Option Addr} {n2 c2 : Nat} {L2 : List (Int × Int)} {o3 : Option Addr} {n3 c3 : Nat} {L3 : List (Int × Int)} (h : TY W3 wr Y T U o1 n1 c1 L1 o2 n2 c2 L2 o3 n3 c3 L3)
    (own : w'.ownsRow W3.heap.size 29 2 (.slice (some ⟨g', 0, none⟩) (n1 + 1) cp') (n1 + 1) (scells L1 ++ [.int .i64 T, .int .i64 U])) (gr : wr.grownBy w' (Value.slice o1 n1 c1).ownBlock) (hat : (Value.slice o1 n1 c1).ownBlock = some g' ∨ g' = wr.heap.size) :
    TY W3 w' Y T U (some ⟨g', 0, none⟩) (n1 + 1) cp' (L1 ++ [(T, U)]) o2 n2 c2 L2 o3 n3 c3 L3 := by
  have own' : w'.ownsRow W3.heap.size 29 2 (.slice (some ⟨g', 0, none⟩) (n1 + 1) cp') (n1 + 1) (scells (L1 ++ [(T, U)])) := by rw [scells_append]; exact own
  have hy := lt_of_block h.b
  have k2 := own_keep h.r2 gr (fun k hk hk' => h.n12 k hk' hk)
  have m2 : ∀ g, (Value.slice (some ⟨g', 0, none⟩) (n1 + 1) cp').ownBlock = some g → (Value.slice o2 n2 c2).ownBlock ≠ some g := by
    intro g hg e
    simp [Value.ownBlock] at hg
    subst hg
    rcases hat with hat | hat
    · exact h.n12 _ hat e
    · have := (h.r2.lt _ e).2; omega
  have k3 := own_keep h.r3 gr (fun k hk hk' => h.n13 k hk' hk)
  have m3 : ∀ g, (Value.slice (some ⟨g', 0, none⟩) (n1 + 1) cp').ownBlock = some g → (Value.slice o3 n3 c3).ownBlock ≠ some g := by
    intro g hg e
    simp [Value.ownBlock] at hg
    subst hg
    rcases hat with hat | hat
    · exact h.n13 _ hat e
    · have := (h.r3.lt _ e).2; omega
  have my : (Value.slice (some ⟨g', 0, none⟩) (n1 + 1) cp').ownBlock ≠ some Y := by
    intro e
    simp [Value.ownBlock] at e
    subst e
    rcases hat with hat | hat
    · exact h.y1 hat
    · omega
  have kb : w'.heap[Y]? = some (.cells #[.int .i64 T, .int .i64 U] 29 (0, 0)) := by rw [gr.block Y hy (fun e => h.y1 e.symm)]; exact h.b
  have kbel := h.bel.grown gr h.bel.size (fun j hj => (h.r1.lt j hj).1)
  exact ⟨own', k2, k3, m2, m3, h.n23, my, h.y2, h.y3, kb, kbel⟩

theorem TY.push2 {W3 wr w' : World} {Y : Nat} {T U : Int} {g' cp' : Nat} {o1 : Option Addr} {n1 c1 : Nat} {L1 : List (Int × Int)} {o2 : Option Addr} {n2 c2 : Nat} {L2 : List (Int × Int)} {o3 : Option Addr} {n3 c3 : Nat} {L3 : List (Int × Int)} (h : TY W3 wr Y T U o1 n1 c1 L1 o2 n2 c2 L2 o3 n3 c3 L3)
    (own : w'.ownsRow W3.heap.size 29 2 (.slice (some ⟨g', 0, none⟩) (n2 + 1) cp') (n2 + 1) (scells L2 ++ [.int .i64 T, .int .i64 U])) (gr : wr.grownBy w' (Value.slice o2 n2 c2).ownBlock) (hat : (Value.slice o2 n2 c2).ownBlock = some g' ∨ g' = wr.heap.size) :
    TY W3 w' Y T U o1 n1 c1 L1 (some ⟨g', 0, none⟩) (n2 + 1) cp' (L2 ++ [(T, U)]) o3 n3 c3 L3 := by
  have own' : w'.ownsRow W3.heap.size 29 2 (.slice (some ⟨g', 0, none⟩) (n2 + 1) cp') (n2 + 1) (scells (L2 ++ [(T, U)])) := by rw [scells_append]; exact own
  have hy := lt_of_block h.b
  have k1 := own_keep h.r1 gr (fun k hk hk' => h.n12 k hk hk')
  have m1 : ∀ g, (Value.slice (some ⟨g', 0, none⟩) (n2 + 1) cp').ownBlock = some g → (Value.slice o1 n1 c1).ownBlock ≠ some g := by
    intro g hg e
    simp [Value.ownBlock] at hg
    subst hg
    rcases hat with hat | hat
    · exact h.n12 _ e hat
    · have := (h.r1.lt _ e).2; omega
  have k3 := own_keep h.r3 gr (fun k hk hk' => h.n23 k hk' hk)
  have m3 : ∀ g, (Value.slice (some ⟨g', 0, none⟩) (n2 + 1) cp').ownBlock = some g → (Value.slice o3 n3 c3).ownBlock ≠ some g := by
    intro g hg e
    simp [Value.ownBlock] at hg
    subst hg
    rcases hat with hat | hat
    · exact h.n23 _ hat e
    · have := (h.r3.lt _ e).2; omega
  have my : (Value.slice (some ⟨g', 0, none⟩) (n2 + 1) cp').ownBlock ≠ some Y := by
    intro e
    simp [Value.ownBlock] at e
    subst e
    rcases hat with hat | hat
    · exact h.y2 hat
    · omega
  have kb : w'.heap[Y]? = some (.cells #[.int .i64 T, .int .i64 U] 29 (0, 0)) := by rw [gr.block Y hy (fun e => h.y2 e.symm)]; exact h.b
  have kbel := h.bel.grown gr h.bel.size (fun j hj => (h.r2.lt j hj).1)
  exact ⟨k1, own', k3, (fun g hg e => m1 g e hg), h.n13, m3, h.y1, my, h.y3, kb, kbel⟩

theorem TY.push3 {W3 wr w' : World} {Y : Nat} {T U : Int} {g' cp' : Nat} {o1 : Option Addr} {n1 c1 : Nat} {L1 : List (Int × Int)} {o2 : Option Addr} {n2 c2 : Nat} {L2 : List (Int × Int)} {o3 : Option Addr} {n3 c3 : Nat} {L3 : List (Int × Int)} (h : TY W3 wr Y T U o1 n1 c1 L1 o2 n2 c2 L2 o3 n3 c3 L3)
    (own : w'.ownsRow W3.heap.size 29 2 (.slice (some ⟨g', 0, none⟩) (n3 + 1) cp') (n3 + 1) (scells L3 ++ [.int .i64 T, .int .i64 U])) (gr : wr.grownBy w' (Value.slice o3 n3 c3).ownBlock) (hat : (Value.slice o3 n3 c3).ownBlock = some g' ∨ g' = wr.heap.size) :
    TY W3 w' Y T U o1 n1 c1 L1 o2 n2 c2 L2 (some ⟨g', 0, none⟩) (n3 + 1) cp' (L3 ++ [(T, U)]) := by
  have own' : w'.ownsRow W3.heap.size 29 2 (.slice (some ⟨g', 0, none⟩) (n3 + 1) cp') (n3 + 1) (scells (L3 ++ [(T, U)])) := by rw [scells_append]; exact own
  have hy := lt_of_block h.b
  have k1 := own_keep h.r1 gr (fun k hk hk' => h.n13 k hk hk')
  have m1 : ∀ g, (Value.slice (some ⟨g', 0, none⟩) (n3 + 1) cp').ownBlock = some g → (Value.slice o1 n1 c1).ownBlock ≠ some g := by
    intro g hg e
    simp [Value.ownBlock] at hg
    subst hg
    rcases hat with hat | hat
    · exact h.n13 _ e hat
    · have := (h.r1.lt _ e).2; omega
  have k2 := own_keep h.r2 gr (fun k hk hk' => h.n23 k hk hk')
  have m2 : ∀ g, (Value.slice (some ⟨g', 0, none⟩) (n3 + 1) cp').ownBlock = some g → (Value.slice o2 n2 c2).ownBlock ≠ some g := by
    intro g hg e
    simp [Value.ownBlock] at hg
    subst hg
    rcases hat with hat | hat
    · exact h.n23 _ e hat
    · have := (h.r2.lt _ e).2; omega
  have my : (Value.slice (some ⟨g', 0, none⟩) (n3 + 1) cp').ownBlock ≠ some Y := by
    intro e
    simp [Value.ownBlock] at e
    subst e
    rcases hat with hat | hat
    · exact h.y3 hat
    · omega
  have kb : w'.heap[Y]? = some (.cells #[.int .i64 T, .int .i64 U] 29 (0, 0)) := by rw [gr.block Y hy (fun e => h.y3 e.symm)]; exact h.b
  have kbel := h.bel.grown gr h.bel.size (fun j hj => (h.r3.lt j hj).1)
  exact ⟨k1, k2, own', h.n12, (fun g hg e => m1 g e hg), (fun g hg e => m2 g e hg), h.y1, h.y2, my, kb, kbel⟩

end Go.Proofs.Ytcgcefnfelmmkaa
