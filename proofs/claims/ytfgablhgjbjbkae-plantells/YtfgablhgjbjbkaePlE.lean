/-
  The walk of plan's Choose.
-/
import Derived.Test.YtfgablhgjbjbkaePlC
import Derived.Test.YtfgablhgjbjbkaePlD
import Derived.Test.YtfgablhgjbjbkaeShF
import Derived.Test.YtfgablhgjbjbkaePlR
namespace Go.Proofs.Ytfgablhgjbjbkae
open Go.RowKit Go.GrainU

set_option maxRecDepth 20000 in
set_option maxHeartbeats 4000000 in
theorem choose_any (x : ShT) (f t : Int) (r : List Grain.Pt × Int) (w : World) (hx : ShIn w x) (hr : r = Grain.choose x.s f t) :
    Calls Try.prog 30 #[x.v, .int .i64 f, .int .i64 t] w fun e w' => ∃ (co : Option Addr) (m d : Nat), e = .returned (.tuple #[.slice co m d, .int .i64 r.2]) ∧ w'.ownsRow w.heap.size 112 3 (.slice co m d) m (pcells r.1) ∧ m ≤ 1000000 ∧ Below w.heap.size w w' := by
  have HR := hide hr
  clear hr
  obtain ⟨X, hX⟩ : ∃ X, X = w.heap.size := ⟨_, rfl⟩
  obtain ⟨V, hV⟩ : ∃ V, V = w.alloc (so x) := ⟨_, rfl⟩
  have bel : Below w.heap.size w V := by rw [hV]; exact (Below.refl _ _).alloc (Nat.le_refl _) _
  have S0 : V.heap[X]? = some (so x) := by rw [hV, hX]; exact heap_alloc_new w _
  have hxV := hx.below bel
  have HV : Hid (V = w.alloc (.cells #[.slice x.a0 x.s.se.length x.c0, .slice x.a1 x.s.ra.length x.c1, .slice x.a2 x.s.fi.length x.c2, .slice x.a3 x.s.co.length x.c3, .int .i64 x.s.rf, .int .i64 x.s.ff, .int .i64 x.s.ft, .int .i64 x.s.cf, .int .i64 x.s.ct] 44)) := hV
  have HX := hide hX
  have Hv : Hid (x.v = .agg #[.slice x.a0 x.s.se.length x.c0, .slice x.a1 x.s.ra.length x.c1, .slice x.a2 x.s.fi.length x.c2, .slice x.a3 x.s.co.length x.c3, .int .i64 x.s.rf, .int .i64 x.s.ff, .int .i64 x.s.ft, .int .i64 x.s.cf, .int .i64 x.s.ct]) := rfl
  obtain ⟨E, hE⟩ : ∃ E, E = Grain.swrong x.s := ⟨_, rfl⟩
  have HE := hide hE
  have hXV : X < V.heap.size := lt_of_block S0
  clear hV hX hE hx
  rw [Hv.out]
  go_enter Try.func30, Try.ntmps30
  go_wp2_with fail
  rw [← HV.out, ← Hv.out]
  refine (swrong_any x V hxV).mono ?_
  rintro e w1 ⟨rfl, hb1⟩
  rw [← HE.out]
  have bel1 : Below w.heap.size w w1 := below_pl hb1 bel
  have S1 := below_block hb1 S0
  by_cases hw : E = 0
  · subst hw
    by_cases h1 : f < 0
    · have e : r = ([], 3) := by rw [HR.out, Grain.choose, if_neg (by simp [← HE.out]), if_pos (.inl h1)]
      subst e
      go_wp2
      exact bodyPost_ret (v := .tuple #[.slice none 0 0, .int .i64 3]) (by simp [results, Try.results30, go_sem]) rfl ⟨none, 0, 0, rfl, World.ownsRow_nil _ _ _ _, by omega, bel1⟩
    · by_cases h2 : t < f
      · have e : r = ([], 3) := by rw [HR.out, Grain.choose, if_neg (by simp [← HE.out]), if_pos (.inr (.inl h2))]
        subst e
        go_wp2
        exact bodyPost_ret (v := .tuple #[.slice none 0 0, .int .i64 3]) (by simp [results, Try.results30, go_sem]) rfl ⟨none, 0, 0, rfl, World.ownsRow_nil _ _ _ _, by omega, bel1⟩
      · by_cases h3 : 1000000 < t
        · have e : r = ([], 3) := by rw [HR.out, Grain.choose, if_neg (by simp [← HE.out]), if_pos (.inr (.inr h3))]
          subst e
          go_wp2
          exact bodyPost_ret (v := .tuple #[.slice none 0 0, .int .i64 3]) (by simp [results, Try.results30, go_sem]) rfl ⟨none, 0, 0, rfl, World.ownsRow_nil _ _ _ _, by omega, bel1⟩
        · have HC : Hid (r = Grain.chr x.s t (t - f).toNat f []) := by
            show _ = _
            rw [HR.out, Grain.choose, if_neg (by simp [← HE.out]), if_neg (by omega), Grain.choose_runs HE.out.symm (by omega) (by omega) _ (Nat.le_refl _)]
          have HSR := hide ((Grain.sr_iff x.s).1 HE.out.symm)
          obtain ⟨i0, hi, hz0, hz1, hz2⟩ := info_parts Try.infoPart
          have f0 : 0 ≤ f := by omega
          have ft : f ≤ t := by omega
          have t1 : t ≤ 1000000 := by omega
          clear h1 h2 h3 HR
          go_wp2
          rw [← HX.out]
          go_loopw [9, 10] (fun s9 s10 wr => ∃ (co : Option Addr) (m d fuel : Nat) (a : Int) (out : List Grain.Pt), s9 = .slice co m d ∧ s10 = .int .i64 a ∧ wr.ownsRow w1.heap.size 112 3 (.slice co m d) m (pcells out) ∧ Below w1.heap.size w1 wr ∧ Hid (r = Grain.chr x.s t fuel a out) ∧ (t - a).toNat ≤ fuel ∧ 0 ≤ a ∧ a ≤ t ∧ m + fuel ≤ 1000000) (fun _ s10 _ => (t - intOf s10).toNat)
          case atStart => exact ⟨none, 0, 0, (t - f).toNat, f, [], rfl, rfl, World.ownsRow_nil _ _ _ _, Below.refl _ _, HC, Nat.le_refl _, f0, ft, by omega⟩
          case round =>
            obtain ⟨co, m, d, fuel, a, out, rfl, rfl, own, belr, HC2, hfu, ha0, hat, hmf⟩ := hrel
            have S2 := below_block belr S1
            have hsz := belr.size
            by_cases hlt : a < t
            · obtain ⟨fu, rfl⟩ : ∃ k, fuel = k + 1 := ⟨fuel - 1, by omega⟩
              obtain ⟨p, hp⟩ : ∃ p, p = Grain.nxr x.s a t := ⟨_, rfl⟩
              have hpf : p.f = a := by rw [hp]; exact (Grain.nxr_ft HSR.out hlt).1
              have hpt : p.t ≤ t := by rw [hp]; exact (Grain.nxr_ft HSR.out hlt).2.1
              obtain ⟨b, hb⟩ : ∃ b, b = Grain.may x.s p := ⟨_, rfl⟩
              have HC3 : Hid (r = if b = true then Grain.chr x.s t fu p.t (out ++ [p]) else ([], 10)) := by
                show _ = _
                rw [HC2.out, Grain.chr, if_pos hlt, hb, hp]
              have HP := hide hp
              have HB := hide hb
              have HPF := hide hpf
              obtain ⟨x0, x1, x2, x3, x4, x5, x6, x7, x8⟩ := nine_cells S2
              have Xl : X < wr.heap.size := lt_of_block S2
              clear hp hb HC2 hpf
              go_wp2_with fail
              refine (next_any x.s _ _ _ _ a t p wr HSR.out ha0 hlt t1 HP.out).mono ?_
              rintro e w2 ⟨rfl, hb2⟩
              obtain ⟨W, hW⟩ : ∃ W, W = w2.alloc (.cells #[.int .i64 p.k, .int .i64 p.f, .int .i64 p.t] 112) := ⟨_, rfl⟩
              have hbW : Below w2.heap.size w2 W := by rw [hW]; exact (Below.refl _ _).alloc (Nat.le_refl _) _
              have P0 : W.heap[w2.heap.size]? = some (.cells #[.int .i64 p.k, .int .i64 p.f, .int .i64 p.t] 112 (0, 0)) := by rw [hW]; exact heap_alloc_new w2 _
              have S3 := below_block hb2 S2
              have S4 := below_block hbW S3
              have hlow : ∀ g, (Value.slice co m d).ownBlock = some g → g < w2.heap.size := fun g hg => Nat.lt_of_lt_of_le (own.lt g hg).2 hb2.size
              have HLow := hide hlow
              have own4 := own_below (own_below own hb2) hbW
              have bel4 : Below w1.heap.size w1 W := below_pl hbW (below_pl hb2 belr)
              have HW := hide hW
              clear hW x0 x1 x2 x3 x4 x5 x6 x7 x8 own belr
              obtain ⟨x0, x1, x2, x3, x4, x5, x6, x7, x8⟩ := nine_cells S3
              have Xl2 : X < w2.heap.size := lt_of_block S3
              clear hb2 hbW
              go_wp2_with fail
              rw [← HW.out]
              refine (may_any x.s _ _ _ _ p b W HB.out).mono ?_
              rintro e w3 ⟨rfl, hb3⟩
              have own5 := own_below own4 hb3
              have bel5 : Below w1.heap.size w1 w3 := below_pl hb3 bel4
              have P1 := below_block hb3 P0
              obtain ⟨y0, y1, y2⟩ := three3 P1
              clear x0 x1 x2 x3 x4 x5 x6 x7 x8 hb3 own4 bel4 HW
              cases b
              · have e : r = ([], 10) := by rw [HC3.out]; rfl
                subst e
                clear HC3
                go_wp2
                exact bodyPost_ret (v := .tuple #[.slice none 0 0, .int .i64 10]) (by simp [results, Try.results30, go_sem]) rfl ⟨none, 0, 0, rfl, World.ownsRow_nil _ _ _ _, by omega, below_pl bel5 bel1⟩
              · have hlt2 : a < p.t := by have := Grain.may_lt HB.out.symm; rw [HPF.out] at this; exact this
                have HC4 : Hid (r = Grain.chr x.s t fu p.t (out ++ [p])) := by show _ = _; rw [HC3.out]; rfl
                have hsz5 := bel5.size
                have hown := own5.lt
                clear HC3
                have own5a := own5.alloc (.cells #[.int .i64 p.k, .int .i64 p.f, .int .i64 p.t] 112)
                go_wp2_with (at_builtin; refine wpList_append_lies _ rfl _ _ 66 rfl w1.heap.size 112 i0 (.agg #[.int .i64 0, .int .i64 0, .int .i64 0]) 3 24 Try.underlying66 hi hz0 hz1 hz2 rfl (by decide) _ _ _ rfl own5a ⟨w3.heap.size, 0, none⟩ 1 1 (ptc p) rfl rfl (World.news_of_block (cs := #[.int .i64 p.k, .int .i64 p.f, .int .i64 p.t]) (t := 112) (fr := (0, 0)) (heap_alloc_new w3 _)) (by simp [ptc, Value.oneCell']) (by decide) (by unfold maxLen; omega) (by omega) (by simp; omega) (w3.heap.size + 1) (by simp) ?_)
                intro g d' w4 own6' gr6 hat6 hlt6
                have own6 : w4.ownsRow w1.heap.size 112 3 (.slice (some ⟨g, 0, none⟩) (m + 1) d') (m + 1) (pcells (out ++ [p])) := by rw [pcells_snoc]; exact own6'
                have bel6 : Below w1.heap.size w1 w4 := (bel5.alloc hsz5 _).grown gr6 (by simp; omega) (fun j hj => (hown j hj).1)
                have P2 : w4.heap[w2.heap.size]? = some (.cells #[.int .i64 p.k, .int .i64 p.f, .int .i64 p.t] 112 (0, 0)) := by
                  have hlP := lt_of_block P1
                  rw [gr6.block _ (by simp; omega) (fun hh => ?_), Below.heap_alloc _ _ _ hlP]
                  · exact P1
                  · have := HLow.out _ hh.symm; omega
                obtain ⟨z0, z1, z2⟩ := three3 P2
                clear y0 y1 y2 P2 P1 P0 gr6 own5 own5a own6' hat6 hlt6 bel5 hown HLow hlow
                go_wp2
                go_roundw
                case rel => exact ⟨_, m + 1, d', fu, p.t, _, rfl, rfl, own6, bel6, HC4, by omega, by omega, hpt, by omega⟩
                case measure => simp [intOf]; omega
            · have e : r = (out, 0) := by rw [HC2.out, Grain.chr_end hlt]
              subst e
              clear HC2
              go_wp2
              exact bodyPost_ret (v := .tuple #[.slice co m d, .int .i64 0]) (by simp [results, Try.results30, go_sem]) rfl ⟨co, m, d, rfl, own_down own bel1.size, by omega, below_pl belr bel1⟩
  · have e : r = ([], E) := by rw [HR.out, Grain.choose, ← HE.out, if_pos hw]
    subst e
    have hne : (E != 0) = true := by simpa using hw
    go_wp2
    exact bodyPost_ret (v := .tuple #[.slice none 0 0, .int .i64 E]) (by simp [results, Try.results30, go_sem]) rfl ⟨none, 0, 0, rfl, World.ownsRow_nil _ _ _ _, by omega, bel1⟩

end Go.Proofs.Ytfgablhgjbjbkae
