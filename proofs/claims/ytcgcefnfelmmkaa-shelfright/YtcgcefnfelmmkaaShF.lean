/-
  The walks of wrongAt, isLate, copied (labels), copiedShelf and New.
-/
import Derived.Test.YtcgcefnfelmmkaaShE
namespace Go.GrainU
open Go.RowKit

theorem lcells_one' (l : List (ByteArray × ByteArray)) : ∀ u ∈ lcells l, u.oneCell' = true := by
  induction l with
  | nil => intro u hu; simp [lcells] at hu
  | cons b r ih =>
    intro u hu
    simp only [lcells, List.mem_cons] at hu
    rcases hu with e | e | e
    · rw [e]; rfl
    · rw [e]; rfl
    · exact ih u e

theorem own_down {w : World} {base base' e size n : Nat} {v : Value} {xs : List Value} (h : w.ownsRow base e size v n xs) (hb : base' ≤ base) : w.ownsRow base' e size v n xs := by
  obtain ⟨h1, h2⟩ := h
  refine ⟨h1, ?_⟩
  rcases h2 with h2 | ⟨g, cap, cur, hv, hg, r⟩
  · exact Or.inl h2
  · exact Or.inr ⟨g, cap, cur, hv, Nat.le_trans hb hg, r⟩

theorem own_nil {w : World} {base e size n c : Nat} {ao : Option Addr} {xs : List Value} (h : w.ownsRow base e size (.slice ao n c) n xs) : ao = none → n = 0 ∧ c = 0 := by
  intro hn
  subst hn
  rcases h.2 with ⟨h2, _⟩ | ⟨g, cap, cur, hv, _⟩
  · simp at h2; exact h2
  · simp at hv

theorem own_seg' {w : World} {base e size n c : Nat} {ao : Option Addr} {xs : List Value} (h : w.ownsRow base e size (.slice ao n c) n xs) : Seg w ao xs := by
  obtain ⟨ao', c', hv, hs, _⟩ := own_open h
  simp at hv
  obtain ⟨rfl, rfl⟩ := hv
  exact hs

end Go.GrainU
namespace Go.Proofs.Ytcgcefnfelmmkaa
open Go.RowKit Go.GrainU

/-- a shelf whose slices the call made -/
structure ShO (base : Nat) (w : World) (y : ShT) : Prop where
  o0 : w.ownsRow base 71 2 (.slice y.a0 y.s.se.length y.c0) y.s.se.length (lcells y.s.se)
  o1 : w.ownsRow base 29 2 (.slice y.a1 y.s.ra.length y.c1) y.s.ra.length (scells y.s.ra)
  o2 : w.ownsRow base 67 8 (.slice y.a2 y.s.fi.length y.c2) y.s.fi.length (kcells y.s.fi)
  o3 : w.ownsRow base 67 8 (.slice y.a3 y.s.co.length y.c3) y.s.co.length (kcells y.s.co)
  ne : ∀ g, (Value.slice y.a2 y.s.fi.length y.c2).ownBlock = some g → (Value.slice y.a3 y.s.co.length y.c3).ownBlock ≠ some g
  fits : Fits y.s.se
  n0 : y.s.se.length * 32 ≤ 140737488355328
  n1 : y.s.ra.length * 16 ≤ 140737488355328
  n2 : y.s.fi.length * 64 ≤ 140737488355328
  n3 : y.s.co.length * 64 ≤ 140737488355328

theorem ShO.shIn {base : Nat} {w : World} {y : ShT} (h : ShO base w y) : ShIn w y :=
  ⟨own_seg' h.o0, own_seg' h.o1, own_seg' h.o2, own_seg' h.o3, h.fits, h.n0, h.n1, h.n2, h.n3, own_nil h.o0, own_nil h.o1, own_nil h.o2, own_nil h.o3⟩

set_option maxHeartbeats 400000 in
theorem wrongAt_any (x : ShT) (tt : Int) (w : World) (hx : ShIn w x) :
    Calls Try.prog 25 #[x.v, .int .i64 tt] w fun e w' => e = .returned (.int .i64 (Grain.wrongAt x.s tt)) ∧ Below w.heap.size w w' := by
  obtain ⟨V, hV⟩ : ∃ V, V = w.alloc (so x) := ⟨_, rfl⟩
  have bel : Below w.heap.size w V := by rw [hV]; exact (Below.refl _ _).alloc (Nat.le_refl _) _
  have hxV := hx.below bel
  have HW : Hid (Grain.wrongAt x.s tt = if Grain.swrong x.s ≠ 0 then Grain.swrong x.s else if tt < 0 ∨ 1000000 < tt then 3 else 0) := rfl
  have HV : Hid (V = w.alloc (.cells #[.slice x.a0 x.s.se.length x.c0, .slice x.a1 x.s.ra.length x.c1, .slice x.a2 x.s.fi.length x.c2, .slice x.a3 x.s.co.length x.c3, .int .i64 x.s.rf, .int .i64 x.s.ff, .int .i64 x.s.ft, .int .i64 x.s.cf, .int .i64 x.s.ct] 27)) := hV
  have Hv : Hid (x.v = .agg #[.slice x.a0 x.s.se.length x.c0, .slice x.a1 x.s.ra.length x.c1, .slice x.a2 x.s.fi.length x.c2, .slice x.a3 x.s.co.length x.c3, .int .i64 x.s.rf, .int .i64 x.s.ff, .int .i64 x.s.ft, .int .i64 x.s.cf, .int .i64 x.s.ct]) := rfl
  rw [Hv.out]
  clear hV
  go_enter Try.func25, Try.ntmps25
  go_wp2_with fail
  rw [← HV.out, ← Hv.out]
  refine (swrong_any x V hxV).mono ?_
  rintro e w1 ⟨rfl, hb1⟩
  have bel1 : Below w.heap.size w w1 := bel.trans (hb1.mono bel.size)
  obtain ⟨E, hE⟩ : ∃ E, E = Grain.swrong x.s := ⟨_, rfl⟩
  rw [← hE] at HW ⊢
  clear hE HV hb1 hxV
  by_cases z : E = 0
  · subst z
    go_wp2
    all_goals
      go_ret
      exact ⟨by rw [HW.out, if_neg (by simp)]; first | (rw [if_pos (by omega)]; rfl) | (rw [if_neg (by omega)]; rfl), bel1⟩
  · have n := ne_beq z
    go_wp2
    go_ret
    exact ⟨by rw [HW.out, if_pos z]; rfl, bel1⟩

set_option maxHeartbeats 1000000 in
theorem late_any (x : ShT) (t : Int) (w : World) (hx : ShIn w x) :
    Calls Try.prog 23 #[x.v, .int .i64 t] w fun e w' => e = .returned (.bool (Grain.late x.s t)) ∧ Below w.heap.size w w' := by
  have HL : Hid (Grain.late x.s t = (decide (t < x.s.ft) || (match x.s.ra.getLast? with | some y => decide (t ≤ y.1) | none => false))) := rfl
  have bel : ∀ o, Below w.heap.size w (w.alloc o) := fun o => (Below.refl _ _).alloc (Nat.le_refl _) _
  have BE := hide bel
  clear bel
  have hg := hx.g1
  have hn1 := hx.n1
  clear hx
  simp only [ShT.v]
  generalize x.s.ft = ft at HL ⊢
  rcases Grain.snoc_or x.s.ra with e | ⟨r, y, e⟩
  · rw [e] at HL
    have hl : x.s.ra.length = 0 := by rw [e]; rfl
    rw [hl]
    clear hl e hg hn1
    go_enter Try.func23, Try.ntmps23
    go_wp2
    all_goals
      go_ret
      refine ⟨?_, BE.out _⟩
      rw [HL.out]
      refine ret_bool ?_
      simp
      try omega
  · rw [e] at HL hg hn1
    have hl : x.s.ra.length = r.length + 1 := by rw [e]; simp
    rw [hl]
    obtain ⟨b, off, ha, hcell⟩ := hg.sample (k := r.length) (by simp)
    have hc := (hcell r.length (by simp)).1
    have et : Grain.tm (r ++ [y]) r.length = y.1 := by simp [Grain.tm]
    rw [et] at hc
    have hb : b < w.heap.size := World.block_lt_of_cell? w _ hc
    generalize x.a1 = a1 at ha ⊢
    subst ha
    have HL' : Hid (Grain.late x.s t = (decide (t < ft) || decide (t ≤ y.1))) := by show _ = _; rw [HL.out]; simp
    generalize y.1 = Y at hc HL'
    simp at hn1
    obtain ⟨m, hm⟩ : ∃ m, m = r.length := ⟨_, rfl⟩
    rw [← hm] at hc hn1 ⊢
    have hw : IntKind.i64.wrap (m : Int) = m := by rw [IntKind.wrap_i64]; omega
    have hmm : (m : Int) < (m : Int) + 1 := by omega
    clear hl e hg hcell et HL hm
    go_enter Try.func23, Try.ntmps23
    go_wp2
    all_goals
      go_ret
      refine ⟨?_, BE.out _⟩
      rw [HL'.out]
      refine ret_bool ?_
      (rw [Bool.eq_iff_iff]) <;> simp <;> try omega

theorem Try.infoLab : (Try.prog.info? 71).map (fun i => (i.zero, i.size, i.bytes)) = some (some (.agg #[.string ⟨#[]⟩, .string ⟨#[]⟩]), 2, 32) := by kernel_rfl

set_option maxHeartbeats 1000000 in
theorem lcopy_any (l : List (ByteArray × ByteArray)) (ao : Option Addr) (n c : Nat) (w : World) (hs : Seg w ao (lcells l)) (hn : n = l.length) (hL : n * 32 ≤ 140737488355328) (hnil : ao = none → n = 0 ∧ c = 0) :
    Calls Try.prog 41 #[.slice ao n c] w fun e w' => ∃ co N d, e = .returned (.slice co N d) ∧ w'.ownsRow w.heap.size 71 2 (.slice co N d) N (lcells l) ∧ Below w.heap.size w w' := by
  obtain ⟨i0, hi, hz0, hz1, hz2⟩ := sinfo_parts Try.infoLab
  have HN := hide hn
  have HL := hide hL
  have HZ := hide hnil
  clear hn hL hnil
  go_enter Try.func41, Try.ntmps41
  go_wp2_with (at_builtin; refine append_seg rfl _ _ 22 rfl w.heap.size 71 i0 (.agg #[.string ⟨#[]⟩, .string ⟨#[]⟩]) 2 32 Try.underlying22 hi hz0 hz1 hz2 rfl (by decide) _ 0 [] rfl (World.ownsRow_nil _ _ _ _) ao n c (lcells l) rfl HZ.out hs ?qc1 (lcells_one' l) ?qc4 ?qc5 (Nat.le_refl _) ?_)
  case qc1 => rw [lcells_length, HN.out]
  case qc4 => have := HL.out; unfold maxLen; omega
  case qc5 => have := HL.out; omega
  intro v' w1 own gr
  obtain ⟨ao', c', rfl, _, _⟩ := own_open own
  have bel1 : Below w.heap.size w w1 := (Below.refl _ _).grown gr (Nat.le_refl _) (fun j hj => by simp [Value.ownBlock] at hj)
  have own2 : w1.ownsRow w.heap.size 71 2 (.slice ao' (0 + n) c') (0 + n) (lcells l) := by simpa using own
  clear own gr
  go_wp2
  go_ret
  exact ⟨ao', n, c', rfl, by simpa using own2, bel1⟩

end Go.Proofs.Ytcgcefnfelmmkaa
