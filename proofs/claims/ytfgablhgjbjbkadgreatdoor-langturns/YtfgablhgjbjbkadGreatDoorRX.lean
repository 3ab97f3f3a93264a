/-
  The first of some signs, walked; what a function that reads an expression promises.
-/
import Derived.Test.YtfgablhgjbjbkadGreatDoorRW
namespace Go.GrainU
open Go.RowKit

/-- signs as words -/
def slit (l : List (List UInt8)) : List ByteArray := l.map lit

theorem accAny_none {l : List (List UInt8)} {r : List UInt8} (h : ∀ j, (hj : j < l.length) → acc l[j] r = none) : accAny l r = none := by
  induction l with
  | nil => rfl
  | cons a t ih =>
    have h0 := h 0 (by simp)
    simp only [List.getElem_cons_zero] at h0
    rw [accAny, h0]
    exact ih fun j hj => by have := h (j + 1) (by simpa using hj); simpa using this

theorem accAny_at {l : List (List UInt8)} {r r1 : List UInt8} {k : Nat} (hk : k < l.length) (h : ∀ j, (hj : j < k) → acc (l[j]'(by omega)) r = none) (ha : acc l[k] r = some r1) : accAny l r = some (l[k], r1) := by
  induction l generalizing k with
  | nil => simp at hk
  | cons a t ih =>
    match k, hk with
    | 0, _ =>
      simp only [List.getElem_cons_zero] at ha
      rw [accAny, ha]
      rfl
    | k + 1, hk =>
      have h0 := h 0 (by omega)
      simp only [List.getElem_cons_zero] at h0
      rw [accAny, h0]
      simp only [List.getElem_cons_succ] at ha ⊢
      exact ih (by simpa using hk) (fun j hj => by have := h (j + 1) (by omega); simpa using this) ha

theorem slit_at {l : List (List UInt8)} {k : Nat} (hk : k < l.length) : (slit l).getD k ⟨#[]⟩ = lit l[k] := by
  simp [slit, List.getD, hk]

end Go.GrainU
namespace Go.Proofs.YtfgablhgjbjbkadGreatDoor
open Go.RowKit Go.GrainU

set_option maxHeartbeats 2000000 in
theorem signs_any (sg : List (List UInt8)) (bo : Option Addr) (m c : Nat) (s : ByteArray) (st : St) (B : Nat) (w : World) (h : Rd 43 w B s st) (hs : s.size ≤ 2000) (hb : Seg w bo (wcells (slit sg))) (hm : m = sg.length) (hM : m ≤ 100) (hne : ∀ b off, bo = some ⟨b, off, none⟩ → b ≠ B) :
    Calls Tryz.prog 46 #[.slice bo m c, .func (.func 47) #[.pointer (some ⟨B, 0, none⟩)] #[]] w fun e w' => ((∃ (k : Nat) (x r : List UInt8), accAny sg st.r = some (x, r) ∧ k < m ∧ sg[k]? = some x ∧ e = .returned (.int .i64 k) ∧ Rd 43 w' B s ⟨r, st.n⟩) ∨ (accAny sg st.r = none ∧ e = .returned (.int .i64 (-1)) ∧ Rd 43 w' B s st)) ∧ w.grownBy w' (some B) := by
  have HM := hide hm
  have HS := hide hb
  have HNE := hide hne
  clear hm hb hne
  go_enter Tryz.func46, Tryz.ntmps46
  go_wp2_with fail
  go_loopw [8] (fun i wr => ∃ k : Nat, k ≤ m ∧ i = .int .i64 k ∧ Hid (∀ j, (hj : j < k) → (hj' : j < sg.length) → acc sg[j] st.r = none) ∧ Rd 43 wr B s st ∧ w.grownBy wr (some B)) (fun i _ => m - (intOf i).toNat)
  case atStart => exact ⟨0, Nat.zero_le _, rfl, fun j hj => by omega, h, World.grownBy.refl _ _⟩
  case round =>
    obtain ⟨k, hk, rfl, HJ, R, gr⟩ := hrel
    by_cases hlt : k < m
    · have hkl : k < sg.length := by rw [← HM.out]; exact hlt
      obtain ⟨b, off, rfl, hbl, hcell⟩ := seg_word (seg_grown HS.out gr HNE.out) (k := k) (by simpa [slit] using hkl)
      have c0 := hcell k (by simpa [slit] using hkl)
      rw [slit_at hkl] at c0
      obtain ⟨x, hx⟩ : ∃ x, x = sg[k] := ⟨_, rfl⟩
      rw [← hx] at c0
      have HX : Hid (x = sg[k]) := hx
      have A := hide (accept_any x s st B wr R hs)
      clear hx hcell
      cases ha : acc x st.r with
      | some r1 =>
        rw [ha] at A
        simp only [Option.getD_some, Option.isSome_some] at A
        have HA : Hid (accAny sg st.r = some (x, r1)) := by
          show _ = _
          rw [HX.out]
          exact accAny_at hkl (fun j hj => HJ.out j hj (by omega)) (by rw [← HX.out]; exact ha)
        have HG : Hid (sg[k]? = some x) := by show _ = _; rw [List.getElem?_eq_getElem hkl, HX.out]
        clear ha
        go_wp2_with fail
        refine A.out.mono ?_
        rintro e w1 ⟨rfl, h1, g1⟩
        have G1 := grown_trans gr g1 (fun _ hk => .inl hk)
        go_wp2_with fail
        go_ret
        exact ⟨.inl ⟨k, x, r1, HA.out, hlt, HG.out, rfl, h1⟩, G1⟩
      | none =>
        rw [ha] at A
        simp only [Option.getD_none, Option.isSome_none] at A
        have HJ' : Hid (∀ j, (hj : j < k + 1) → (hj' : j < sg.length) → acc sg[j] st.r = none) := by
          intro j hj hj'
          rcases (show j < k ∨ j = k from by omega) with e | e
          · exact HJ.out j e hj'
          · subst e; rw [← HX.out]; exact ha
        clear ha HJ
        go_wp2_with fail
        refine A.out.mono ?_
        rintro e w1 ⟨rfl, h1, g1⟩
        have G1 := grown_trans gr g1 (fun _ hk => .inl hk)
        go_wp2_with fail
        go_roundw
        case rel => exact ⟨k + 1, by omega, by go_num, HJ', h1, G1⟩
        case measure => simp [intOf]; omega
    · have HA : Hid (accAny sg st.r = none) := accAny_none fun j hj => HJ.out j (by have := HM.out; omega) hj
      go_wp2_with fail
      go_ret
      exact ⟨.inr ⟨HA.out, rfl, R⟩, gr⟩

/-- what a function that reads an expression leaves -/
abbrev EPost (s : ByteArray) (B : Nat) (w : World) (x : Except Flt (Ex × St)) (e : Ending) (w' : World) : Prop :=
  ((∃ t q, x = .ok (ET.ex t, q) ∧ e = .returned (eval t) ∧ t.In (cut w.heap.size w') ∧ Rd 43 w' B s q ∧ q.n ≤ 100) ∨ ∃ f, x = .error f ∧ e = .panicked [thr s f]) ∧ w.grownBy w' (some B)

/-- function F, at depth d, reads as p says -/
abbrev Reads (F : FuncId) (d : Int) (p : St → Except Flt (Ex × St)) : Prop :=
  ∀ (s : ByteArray) (st : St) (B : Nat) (w0 w : World), Rd 43 w B s st → s.size ≤ 2000 → st.n ≤ 100 → ErrV w0 → Below w0.heap.size w0 w → w0.heap.size ≤ B →
    Calls Tryz.prog F #[.pointer (some ⟨B, 0, none⟩), .int .i64 d] w (EPost s B w (p st))

end Go.Proofs.YtfgablhgjbjbkadGreatDoor
