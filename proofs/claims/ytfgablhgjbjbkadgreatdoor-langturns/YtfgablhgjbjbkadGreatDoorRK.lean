/-
  ended walked.
-/
import Derived.Test.YtfgablhgjbjbkadGreatDoorRJ
namespace Go.Proofs.YtfgablhgjbjbkadGreatDoor
open Go.RowKit Go.GrainU

set_option maxHeartbeats 2000000 in
theorem ended_any (t : ET) (s : ByteArray) (st : St) (B : Nat) (w : World) (h : Rd 43 w B s st) (hn : st.n ≤ 1000) :
    Calls Tryz.prog 48 #[.pointer (some ⟨B, 0, none⟩), eval t] w fun e w' => ((fin t.ex st = .ok (t.ex, ⟨st.r, st.n + 1⟩) ∧ e = .returned (eval t) ∧ Rd 43 w' B s ⟨st.r, st.n + 1⟩) ∨ (fin t.ex st = .error (4, st.r.length) ∧ e = .panicked [thr s (4, st.r.length)])) ∧ w.grownBy w' (some B) := by
  have hB := h.lt
  obtain ⟨c0, c1, c2⟩ := h.cells
  obtain ⟨t0, t1, t2⟩ := h.thaw
  have R1 := h.nodes (st.n + 1)
  simp only [Int.natCast_add] at R1
  have HR1 := hide R1
  obtain ⟨r, n⟩ := st
  simp only at c1 c2 hn HR1 ⊢
  clear R1
  unfold eval
  generalize t.hd.ms.length = ml
  generalize t.hd.bs.length = bl
  generalize t.kids.length = kl
  obtain ⟨P, hP⟩ : ∃ P, P = pos s r := ⟨_, rfl⟩
  rw [← hP] at c1
  have HP := hide hP
  clear hP h
  have HG : Hid (w.grownBy ((w.setCell ⟨B, 2, none⟩ (.int .i64 ((n : Int) + 1))).alloc (.cells #[.int .i64 t.hd.kind, .int .i64 t.hd.n, .int .i64 t.hd.range, .string t.hd.word, .slice t.sp.ma ml t.sp.mc, .slice t.sp.ba bl t.sp.bc, .slice t.sp.ka kl t.sp.kc] 26)) (some B)) :=
    grown_trans grown_set8 (World.grownBy_alloc _ _ none) (fun _ hk => by cases hk)
  by_cases h1 : 100 < n + 1
  · have h1' : (100 : Int) < (n : Int) + 1 := by omega
    have HE : Hid (fin t.ex ⟨r, n⟩ = .error (4, r.length)) := by show _ = _; simp only [fin]; rw [if_pos h1]
    go_enter Tryz.func48, Tryz.ntmps48
    go_wp2_with fail
    refine (throw_any _ _ _).mono ?_
    intro e w2 hh
    rw [hh.1, hh.2]
    clear hh
    go_wp2_with fail
    exact ⟨rfl, .inr ⟨HE.out, by rw [HP.out]; rfl⟩, grown_trans HG.out (World.grownBy_alloc _ _ none) (fun _ hk => by cases hk)⟩
  · have h1' : ¬ (100 : Int) < (n : Int) + 1 := by omega
    have HE : Hid (fin t.ex ⟨r, n⟩ = .ok (t.ex, ⟨r, n + 1⟩)) := by show _ = _; simp only [fin]; rw [if_neg h1]
    go_enter Tryz.func48, Tryz.ntmps48
    go_wp2
    exact bodyPost_ret (v := .agg #[.int .i64 t.hd.kind, .int .i64 t.hd.n, .int .i64 t.hd.range, .string t.hd.word, .slice t.sp.ma ml t.sp.mc, .slice t.sp.ba bl t.sp.bc, .slice t.sp.ka kl t.sp.kc]) (by simp [results, Tryz.results48, go_sem]) rfl
      ⟨.inl ⟨HE.out, rfl, (HR1.out.alloc _).alloc _⟩, grown_trans HG.out (World.grownBy_alloc _ _ none) (fun _ hk => by cases hk)⟩

end Go.Proofs.YtfgablhgjbjbkadGreatDoor
