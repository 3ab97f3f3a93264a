/-
  What the bound of the narrowed form gives: how long a slice is.
-/
import Derived.Test.YthohkokhimdamaaRows
namespace Go.Proofs.Ythohkokhimdamaa

theorem bulk_pos {H : Type} (d : DataW H) : 0 < Rows.uptoBulk d := by
  cases d
  case lit l => cases l <;> simp [Rows.uptoBulk]
  all_goals simp [Rows.uptoBulk]

/-- a list of values is no longer than its bulk -/
theorem bulk_long {H : Type} : ∀ l : List (DataW H), l.length ≤ Rows.uptoBulkAll l
  | [] => Nat.zero_le _
  | d :: r => by
    have h := bulk_pos d
    have h' := bulk_long r
    rw [Rows.uptoBulkAll, List.length_cons]
    omega

/-- a slice at the head of the arguments, or behind it, has few places -/
theorem bulk_slice {H : Type} {es sp : List (DataW H)} : ∀ {l : List (DataW H)}, DataW.slice es sp ∈ l → es.length + sp.length ≤ Rows.uptoBulkAll l
  | d :: r, h => by
    rw [Rows.uptoBulkAll]
    rcases List.mem_cons.1 h with e | e
    · rw [← e, Rows.uptoBulk]
      have h1 := bulk_long es
      have h2 := bulk_long sp
      omega
    · have := bulk_slice e
      omega

theorem bulk_room {H : Type} {es sp : List (DataW H)} {l : List (DataW H)} (hk : Rows.uptoSmall H l = true) (h : DataW.slice es sp ∈ l) : es.length + sp.length ≤ 1048576 := by
  have hb : Rows.uptoBulkAll l ≤ 1048576 := of_decide_eq_true hk
  exact Nat.le_trans (bulk_slice h) hb

end Go.Proofs.Ythohkokhimdamaa
