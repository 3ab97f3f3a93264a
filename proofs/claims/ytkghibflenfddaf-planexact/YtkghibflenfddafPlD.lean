/-
  The walk of plan's put.
-/
import Derived.Test.YtkghibflenfddafPlA
import Derived.Test.YtkghibflenfddafRollPutB
namespace Go.Proofs.Ytkghibflenfddaf
open Go.RowKit Go.GrainU

/-- what put answers: parts in memory of the caller's own -/
def PPost (base : Nat) (v : Value) (w : World) (Y : List Grain.Pt) (e : Ending) (w' : World) : Prop :=
  ∃ g n' cap', e = .returned (.slice (some ⟨g, 0, none⟩) n' cap') ∧ w'.ownsRow base 34 3 (.slice (some ⟨g, 0, none⟩) n' cap') n' (pcells Y) ∧ w.grownBy w' v.ownBlock

/-- the cells of the last part of an owned row -/
theorem own_plast {w : World} {base e g n cap : Nat} {R : List Grain.Pt} {b : Grain.Pt} (h : w.ownsRow base e 3 (.slice (some ⟨g, 0, none⟩) n cap) n (pcells (R ++ [b]))) : Cells3 w g (R.length * 3) b := by
  obtain ⟨bb, off, e1, _, hc⟩ := seg_part (own_seg h) (k := R.length) (by simp)
  simp at e1
  obtain ⟨rfl, rfl⟩ := e1
  have := hc R.length (by simp)
  rw [Nat.zero_add] at this
  have eb : Grain.pt (R ++ [b]) R.length = b := by simp [Grain.pt]
  rw [eb] at this
  exact this

set_option maxRecDepth 20000 in
set_option maxHeartbeats 2000000 in
theorem pput_none (p : Grain.Pt) (base n cap : Nat) (ao : Option Addr) (w : World) (own : w.ownsRow base 34 3 (.slice ao n cap) n (pcells [])) (hb : base ≤ w.heap.size) :
    Calls Try.prog 19 #[.slice ao n cap, .agg #[.int .i64 p.k, .int .i64 p.f, .int .i64 p.t]] w (PPost base (.slice ao n cap) w [p]) := by
  obtain ⟨i0, hi, hz0, hz1, hz2⟩ := info_parts Try.infoPart
  obtain ⟨W, hW⟩ : ∃ W, W = w.alloc (.cells #[.int .i64 p.k, .int .i64 p.f, .int .i64 p.t] 34) := ⟨_, rfl⟩
  have own1 : Hid (∀ q, (W.drewN q).ownsRow base 34 3 (.slice ao n cap) n (pcells [])) := fun q => by rw [hW]; exact own.alloc _
  have P0 : W.heap[w.heap.size]? = some (.cells #[.int .i64 p.k, .int .i64 p.f, .int .i64 p.t] 34 (0, 0)) := by rw [hW]; exact heap_alloc_new w _
  obtain ⟨y0, y1, y2⟩ := three3 P0
  have HWs : Hid (W.heap.size = w.heap.size + 1) := by show _ = _; rw [hW]; simp
  have fin : Hid (∀ (q g cap' : Nat) (w1 : World), w1.ownsRow base 34 3 (.slice (some ⟨g, 0, none⟩) (0 + 1) cap') (0 + 1) (pcells [] ++ ptc p) → ((W.drewN q).alloc (.cells #[.int .i64 p.k, .int .i64 p.f, .int .i64 p.t] 34)).grownBy w1 (Value.slice ao n cap).ownBlock →
      PPost base (.slice ao n cap) w [p] (.returned (.slice (some ⟨g, 0, none⟩) (0 + 1) cap')) w1) := by
    intro q g cap' w1 h1 h2
    refine ⟨g, _, cap', rfl, ?_, ?_⟩
    · rw [show ([p] : List Grain.Pt) = [] ++ [p] from rfl, pcells_snoc]; exact h1
    · have gw : w.grownBy W (Value.slice ao n cap).ownBlock := by rw [hW]; exact World.grownBy_alloc w _ _
      have g1 : w.grownBy (W.drewN q) (Value.slice ao n cap).ownBlock := ⟨gw.os, gw.tape, gw.output, gw.size, gw.block⟩
      exact grown_trans (grown_trans g1 (World.grownBy_alloc _ _ none) (fun k h => by cases h)) h2 (fun k hk => .inl hk)
  have hn0 : n = 0 := own_plen own
  subst hn0
  have hg : decide ((0 : Int) < ((0 : Nat) : Int)) = false := by decide
  have hg' : decide ((0 : Int) < 0) = false := by decide
  have HW := hide hW
  clear hW own
  go_enter Try.func19, Try.ntmps19
  go_wp2
  rw [← HW.out]
  go_quiet (fail)
  go_wp2_with (at_builtin; refine wpList_append_lies _ rfl _ _ 29 rfl base 34 i0 (.agg #[.int .i64 0, .int .i64 0, .int .i64 0]) 3 24 Try.underlying29 hi hz0 hz1 hz2 rfl (by decide) _ _ _ rfl ((own1.out _).alloc _) ⟨W.heap.size, 0, none⟩ 1 1 (ptc p) rfl rfl (World.news_of_block (cs := #[.int .i64 p.k, .int .i64 p.f, .int .i64 p.t]) (t := 34) (fr := (0, 0)) (heap_alloc_new (W.drewN _) _)) (by simp [ptc, Value.oneCell']) (by decide) (by unfold maxLen; omega) (by omega) (by simp; have := HWs.out; omega) (W.heap.size + 1) (by simp) ?_)
  intro g cap' w1 own2 gr2 hat2 hlt2
  have F := hide (fin.out _ g cap' w1 own2 gr2)
  clear fin own1 own2 gr2 hat2 hlt2
  go_wp2
  go_ret
  exact F.out

set_option maxRecDepth 20000 in
set_option maxHeartbeats 2000000 in
theorem pput_new (R : List Grain.Pt) (q p : Grain.Pt) (base n g0 cap : Nat) (w : World) (own : w.ownsRow base 34 3 (.slice (some ⟨g0, 0, none⟩) n cap) n (pcells (R ++ [q]))) (hb : base ≤ w.heap.size) (hn : n ≤ 1000000) (hk : q.k ≠ p.k) :
    Calls Try.prog 19 #[.slice (some ⟨g0, 0, none⟩) n cap, .agg #[.int .i64 p.k, .int .i64 p.f, .int .i64 p.t]] w (PPost base (.slice (some ⟨g0, 0, none⟩) n cap) w (R ++ [q] ++ [p])) := by
  obtain ⟨i0, hi, hz0, hz1, hz2⟩ := info_parts Try.infoPart
  obtain ⟨W, hW⟩ : ∃ W, W = w.alloc (.cells #[.int .i64 p.k, .int .i64 p.f, .int .i64 p.t] 34) := ⟨_, rfl⟩
  have own1 : Hid (∀ qq, (W.drewN qq).ownsRow base 34 3 (.slice (some ⟨g0, 0, none⟩) n cap) n (pcells (R ++ [q]))) := fun qq => by rw [hW]; exact own.alloc _
  have P0 : W.heap[w.heap.size]? = some (.cells #[.int .i64 p.k, .int .i64 p.f, .int .i64 p.t] 34 (0, 0)) := by rw [hW]; exact heap_alloc_new w _
  obtain ⟨y0, y1, y2⟩ := three3 P0
  have HWs : Hid (W.heap.size = w.heap.size + 1) := by show _ = _; rw [hW]; simp
  have fin : Hid (∀ (qq g cap' : Nat) (w1 : World), w1.ownsRow base 34 3 (.slice (some ⟨g, 0, none⟩) (n + 1) cap') (n + 1) (pcells (R ++ [q]) ++ ptc p) → ((W.drewN qq).alloc (.cells #[.int .i64 p.k, .int .i64 p.f, .int .i64 p.t] 34)).grownBy w1 (Value.slice (some ⟨g0, 0, none⟩) n cap).ownBlock →
      PPost base (.slice (some ⟨g0, 0, none⟩) n cap) w (R ++ [q] ++ [p]) (.returned (.slice (some ⟨g, 0, none⟩) (n + 1) cap')) w1) := by
    intro qq g cap' w1 h1 h2
    refine ⟨g, _, cap', rfl, ?_, ?_⟩
    · rw [pcells_snoc]; exact h1
    · have gw : w.grownBy W (Value.slice (some ⟨g0, 0, none⟩) n cap).ownBlock := by rw [hW]; exact World.grownBy_alloc w _ _
      have g1 : w.grownBy (W.drewN qq) (Value.slice (some ⟨g0, 0, none⟩) n cap).ownBlock := ⟨gw.os, gw.tape, gw.output, gw.size, gw.block⟩
      exact grown_trans (grown_trans g1 (World.grownBy_alloc _ _ none) (fun k h => by cases h)) h2 (fun k hk => .inl hk)
  have hlen : n = R.length + 1 := by have := own_plen own; simpa using this
  subst hlen
  have hc : Cells3 W g0 (R.length * 3) q := by
    have := own1.out 0
    exact own_plast (w := W) this
  obtain ⟨c0, c1, c2⟩ := hc
  have hg : decide ((0 : Int) < ((R.length + 1 : Nat) : Int)) = true := by simp
  have hg' : decide ((0 : Int) < (R.length : Int) + 1) = true := by simp
  have ne : (q.k == p.k) = false := by simpa using hk
  have hw1 : IntKind.i64.wrap ((R.length : Int) + 1 - 1) = (R.length : Int) := by rw [IntKind.wrap_i64]; omega
  have hw2 : IntKind.i64.wrap (R.length : Int) = (R.length : Int) := by rw [IntKind.wrap_i64]; omega
  have HW := hide hW
  clear hW own
  go_enter Try.func19, Try.ntmps19
  go_wp2
  rw [← HW.out]
  go_quiet (fail)
  go_wp2_with (at_builtin; refine wpList_append_lies _ rfl _ _ 29 rfl base 34 i0 (.agg #[.int .i64 0, .int .i64 0, .int .i64 0]) 3 24 Try.underlying29 hi hz0 hz1 hz2 rfl (by decide) _ _ _ rfl ((own1.out _).alloc _) ⟨W.heap.size, 0, none⟩ 1 1 (ptc p) rfl rfl (World.news_of_block (cs := #[.int .i64 p.k, .int .i64 p.f, .int .i64 p.t]) (t := 34) (fr := (0, 0)) (heap_alloc_new (W.drewN _) _)) (by simp [ptc, Value.oneCell']) (by decide) (by unfold maxLen; omega) (by omega) (by simp; have := HWs.out; omega) (W.heap.size + 1) (by simp) ?_)
  intro g cap' w1 own2 gr2 hat2 hlt2
  have F := hide (fin.out _ g cap' w1 own2 gr2)
  clear fin own1 own2 gr2 hat2 hlt2
  go_wp2
  go_ret
  exact F.out

set_option maxRecDepth 20000 in
set_option maxHeartbeats 2000000 in
theorem pput_same (R : List Grain.Pt) (q p : Grain.Pt) (base n g0 cap : Nat) (w : World) (own : w.ownsRow base 34 3 (.slice (some ⟨g0, 0, none⟩) n cap) n (pcells (R ++ [q]))) (hn : n ≤ 1000000) (hk : q.k = p.k) :
    Calls Try.prog 19 #[.slice (some ⟨g0, 0, none⟩) n cap, .agg #[.int .i64 p.k, .int .i64 p.f, .int .i64 p.t]] w (PPost base (.slice (some ⟨g0, 0, none⟩) n cap) w (R ++ [⟨q.k, q.f, p.t⟩])) := by
  obtain ⟨W, hW⟩ : ∃ W, W = w.alloc (.cells #[.int .i64 p.k, .int .i64 p.f, .int .i64 p.t] 34) := ⟨_, rfl⟩
  have own1 : Hid (∀ qq, (W.drewN qq).ownsRow base 34 3 (.slice (some ⟨g0, 0, none⟩) n cap) n (pcells (R ++ [q]))) := fun qq => by rw [hW]; exact own.alloc _
  have gr : w.grownBy W (some g0) := by rw [hW]; exact World.grownBy_alloc w _ _
  have P0 : W.heap[w.heap.size]? = some (.cells #[.int .i64 p.k, .int .i64 p.f, .int .i64 p.t] 34 (0, 0)) := by rw [hW]; exact heap_alloc_new w _
  obtain ⟨y0, y1, y2⟩ := three3 P0
  have hlen : n = R.length + 1 := by have := own_plen own; simpa using this
  subst hlen
  have hc : Cells3 W g0 (R.length * 3) q := by
    have := own1.out 0
    exact own_plast (w := W) this
  obtain ⟨c0, c1, c2⟩ := hc
  have t2 : W.frozen? ⟨g0, R.length * 3 + 2, none⟩ = false := own_thaw (w := W) (own1.out 0) _
  have hg : decide ((0 : Int) < ((R.length + 1 : Nat) : Int)) = true := by simp
  have hg' : decide ((0 : Int) < (R.length : Int) + 1) = true := by simp
  have ne : (q.k == p.k) = true := by simpa using hk
  have hw1 : IntKind.i64.wrap ((R.length : Int) + 1 - 1) = (R.length : Int) := by rw [IntKind.wrap_i64]; omega
  have hw2 : IntKind.i64.wrap (R.length : Int) = (R.length : Int) := by rw [IntKind.wrap_i64]; omega
  have HK := hide hk
  have fin : Hid (∀ qq, PPost base (.slice (some ⟨g0, 0, none⟩) (R.length + 1) cap) w (R ++ [⟨q.k, q.f, p.t⟩]) (.returned (.slice (some ⟨g0, 0, none⟩) (R.length + 1) cap)) ((W.drewN qq).setCell ⟨g0, R.length * 3 + 2, none⟩ (.int .i64 p.t))) := by
    intro qq
    refine ⟨g0, _, cap, rfl, ?_, ?_⟩
    · rw [← pset]; exact own_set (own1.out qq) _ _
    · exact grown_setCell ⟨gr.os, gr.tape, gr.output, gr.size, gr.block⟩
  have HW := hide hW
  clear hW own hk gr own1
  go_enter Try.func19, Try.ntmps19
  go_wp2
  rw [← HW.out]
  go_quiet (fail)
  go_wp2
  go_ret
  exact fin.out _

/-- put, whatever the parts -/
theorem pput_any (X : List Grain.Pt) (p : Grain.Pt) (base n cap : Nat) (ao : Option Addr) (w : World) (own : w.ownsRow base 34 3 (.slice ao n cap) n (pcells X)) (hb : base ≤ w.heap.size) (hn : n ≤ 1000000) :
    Calls Try.prog 19 #[.slice ao n cap, .agg #[.int .i64 p.k, .int .i64 p.f, .int .i64 p.t]] w (PPost base (.slice ao n cap) w (Grain.putP X p)) := by
  rcases Grain.snoc_or X with rfl | ⟨R, q, rfl⟩
  · rw [Grain.putP_nil]
    exact pput_none p base n cap ao w own hb
  · rcases own.2 with ⟨h0, h1⟩ | ⟨g, cap', cur, h0, _⟩
    · have := own_plen own
      simp at this
      omega
    · simp at h0
      obtain ⟨rfl, rfl⟩ := h0
      by_cases e : q.k = p.k
      · rw [Grain.putP_same _ _ _ e]
        exact pput_same R q p base n g cap w own hn e
      · rw [Grain.putP_other _ _ _ e]
        exact pput_new R q p base n g cap w own hb hn e

end Go.Proofs.Ytkghibflenfddaf
