/-
  number walked.
-/
import Derived.Test.YtfgablhgjbjbkadGreatDoorRH
namespace Go.GrainU
open Go.RowKit

theorem uint_digits {l : List UInt8} (h : l.all digit = true) : ∀ a, Go.Lib.parseUint10 a l ≠ .syntax := by
  induction l with
  | nil => intro a; simp [Go.Lib.parseUint10]
  | cons c r ih =>
    intro a
    simp at h
    have hc : 48 ≤ c.toNat ∧ c.toNat ≤ 57 := by have := h.1; unfold digit at this; simp at this; exact this
    unfold Go.Lib.parseUint10
    rw [if_pos hc]
    split
    · intro e; cases e
    · split
      · intro e; cases e
      · exact ih (by simpa using h.2) _

theorem atoi_digits {l : List UInt8} (h : l.all digit = true) (h0 : l ≠ []) : Go.Lib.atoiAll l ≠ .syntax := by
  cases l with
  | nil => exact absurd rfl h0
  | cons c r =>
    have hc : 48 ≤ c.toNat ∧ c.toNat ≤ 57 := by have := h; simp at this; have := this.1; unfold digit at this; simp at this; exact this
    have hm : Go.Lib.parseMag (c :: r) ≠ .syntax := by
      unfold Go.Lib.parseMag
      rw [if_neg (by simp)]
      exact uint_digits h 0
    unfold Go.Lib.atoiAll
    simp only [show ¬ (c.toNat = 43 ∨ c.toNat = 45) from by omega, if_false]
    cases hp : Go.Lib.parseMag (c :: r) with
    | «syntax» => exact absurd hp hm
    | range => simp
    | ok u =>
      simp only
      split
      · intro e; cases e
      · split
        · intro e; cases e
        · split <;> (intro e; cases e)

theorem take_all (p : UInt8 → Bool) (l : List UInt8) : (l.takeWhile p).all p = true := by
  induction l with
  | nil => rfl
  | cons c r ih =>
    by_cases h : p c = true
    · simp [h]
    · simp [h]

/-- a variable of an interface's type lies there -/
def IfaceAt (P : Program) (w : World) (name : String) : Prop := ∃ tp p, w.var? P name = some #[.iface tp p]

theorem IfaceAt.below {P : Program} {w w' : World} {name : String} (h : IfaceAt P w name) (hb : Below w.heap.size w w') : IfaceAt P w' name := by
  obtain ⟨tp, p, h⟩ := h
  refine ⟨tp, p, ?_⟩
  unfold World.var? at *
  cases hg : P.globalNamed name with
  | none => simp [hg] at h
  | some g =>
    simp only [hg, Option.bind_some] at h ⊢
    have hlt : g < w.heap.size := by
      rcases Nat.lt_or_ge g w.heap.size with e | e
      · exact e
      · rw [Array.getElem?_eq_none (by exact e)] at h; simp at h
    rw [hb.block g hlt]
    exact h

end Go.GrainU
namespace Go.Proofs.YtfgablhgjbjbkadGreatDoor
open Go.RowKit Go.GrainU

abbrev ErrV (w : World) : Prop := IfaceAt Tryz.prog w "strconv.ErrRange"

/-- a digit text as a number: the library's answer -/
theorem atoi_any (d : List UInt8) (w : World) (hd : d.all digit = true) (h0 : d ≠ []) (hl : d.length ≤ 2000) (hv : ErrV w) :
    Calls Tryz.prog 82 #[.string (lit d)] w fun e w' => ((∃ n, Go.Lib.atoiAll d = .ok n ∧ e = .returned (.tuple #[.int .i64 n, .nilIface])) ∨ (Go.Lib.atoiAll d = .range ∧ ∃ z t q, e = .returned (.tuple #[.int .i64 z, .iface t q]))) ∧ Below w.heap.size w w' := by
  have hs : (lit d).size ≤ 2000 := by rw [lit_size]; exact hl
  cases hr : Go.Lib.atoiAll d with
  | ok n =>
    refine (Tryz.strconv_Atoi_ok (lit d) (by omega) n (by rw [lit_data]; exact hr) w).mono ?_
    rintro e w' ⟨he, hw⟩
    refine ⟨.inl ⟨n, rfl, he⟩, ?_⟩
    rcases hw with rfl | ⟨t, rfl⟩
    · exact Below.refl _ _
    · exact Lib.bytesWorld_below _ _ _
  | range =>
    obtain ⟨tp, p, hv⟩ := hv
    refine (Tryz.strconv_Atoi_range_var (lit d) (by omega) (by rw [lit_data]; exact hr) tp p w hv).mono ?_
    rintro e w' ⟨N, he, _, _, hb⟩
    exact ⟨.inr ⟨rfl, _, _, _, he⟩, hb⟩
  | «syntax» => exact absurd hr (atoi_digits hd h0)

end Go.Proofs.YtfgablhgjbjbkadGreatDoor
