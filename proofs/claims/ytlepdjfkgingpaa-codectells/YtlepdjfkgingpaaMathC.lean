/-
  The plain mathematics behind CodecMoved.
-/
import Derived.Test.YtlepdjfkgingpaaMathB
namespace Grain

/-- samples that are all so much later -/
def mv (d : Int) (l : List (Int × Int)) : List (Int × Int) := l.map fun s => (s.1 + d, s.2)

theorem mv_len (d : Int) (l : List (Int × Int)) : (mv d l).length = l.length := by simp [mv]
theorem mv_tm {d : Int} {l : List (Int × Int)} {k : Nat} (h : k < l.length) : tm (mv d l) k = tm l k + d ∧ vl (mv d l) k = vl l k := by
  simp [tm, vl, mv, List.getD, List.getElem?_eq_getElem h]

theorem num_len3 {n : Int} (h1 : -1000000 ≤ n) (h2 : n ≤ 1000000) : 1 ≤ (num n).length ∧ (num n).length ≤ 3 := by
  have hf : 0 ≤ fold n ∧ fold n ≤ 2000000 := by unfold fold; split <;> omega
  unfold num
  by_cases a : fold n < 128
  · rw [dig_last a]; simp
  · rw [dig_more a]
    by_cases b : fold n / 128 < 128
    · rw [dig_last b]; simp
    · rw [dig_more b, dig_last (by omega)]; simp

theorem mv_plen {d : Int} {l : List (Int × Int)} {k : Nat} (h : k + 2 < l.length) : plen (mv d l) (k + 2) = plen l (k + 2) := by
  have h0 := mv_tm (d := d) h
  have h1 := mv_tm (d := d) (l := l) (k := k + 1) (by omega)
  have h2 := mv_tm (d := d) (l := l) (k := k) (by omega)
  have e1 : tm (mv d l) (k + 2) - tp (mv d l) (k + 2) - sp (mv d l) (k + 2) = tm l (k + 2) - tp l (k + 2) - sp l (k + 2) := by
    show tm (mv d l) (k + 2) - tm (mv d l) (k + 1) - (tm (mv d l) (k + 1) - tm (mv d l) k) = tm l (k + 2) - tm l (k + 1) - (tm l (k + 1) - tm l k)
    rw [h0.1, h1.1, h2.1]; omega
  have e2 : vl (mv d l) (k + 2) - vp (mv d l) (k + 2) = vl l (k + 2) - vp l (k + 2) := by
    show vl (mv d l) (k + 2) - vl (mv d l) (k + 1) = vl l (k + 2) - vl l (k + 1)
    rw [h0.2, h1.2]
  unfold plen
  rw [e1, e2]

theorem plen_few {d : Int} {l : List (Int × Int)} {k : Nat} (hk : k < 2) (h : k < l.length) (r : Right l) (r' : Right (mv d l)) :
    plen (mv d l) k ≤ plen l k + 2 ∧ plen l k ≤ plen (mv d l) k + 2 := by
  have hv : vl (mv d l) k - vp (mv d l) k = vl l k - vp l k := by
    match k with
    | 0 => simp only [vp]; rw [(mv_tm h).2]
    | k + 1 => simp only [vp]; rw [(mv_tm h).2, (mv_tm (show k < l.length by omega)).2]
  have b : ∀ m : List (Int × Int), Right m → k < m.length → -1000000 ≤ tm m k - tp m k - sp m k ∧ tm m k - tp m k - sp m k ≤ 1000000 := by
    intro m rm hm
    match k, hk with
    | 0, _ => simp only [tp, sp]; have := rm.rng 0 hm; omega
    | 1, _ =>
      simp only [tp, sp]
      have h0 := rm.rng 0 (by omega)
      have h1 := rm.rng 1 hm
      have h2 := rm.rise 0 hm
      simp only [Nat.zero_add] at h2
      omega
  have b1 := b l r h
  have b2 := b (mv d l) r' (by rw [mv_len]; exact h)
  have n1 := num_len3 b1.1 b1.2
  have n2 := num_len3 b2.1 b2.2
  unfold plen
  rw [hv]
  omega

theorem mv_upTo {d : Int} {l : List (Int × Int)} (r : Right l) (r' : Right (mv d l)) : ∀ k, k ≤ l.length →
    (upTo (mv d l) k).length ≤ (upTo l k).length + 2 * min k 2 ∧ (upTo l k).length ≤ (upTo (mv d l) k).length + 2 * min k 2 := by
  intro k
  induction k with
  | zero => intro _; simp [upTo, mv_len]
  | succ k ih =>
    intro hk
    have h := ih (by omega)
    rw [upTo_succ_len, upTo_succ_len]
    by_cases h2 : k < 2
    · have := plen_few h2 (show k < l.length by omega) r r'
      omega
    · obtain ⟨m, rfl⟩ : ∃ m, k = m + 2 := ⟨k - 2, by omega⟩
      rw [mv_plen (show m + 2 < l.length by omega)]
      omega

theorem mv_bytes {d : Int} {l : List (Int × Int)} (r : Right l) (r' : Right (mv d l)) :
    (bytes (mv d l)).length ≤ (bytes l).length + 4 ∧ (bytes l).length ≤ (bytes (mv d l)).length + 4 := by
  unfold bytes
  rw [mv_len]
  have := mv_upTo r r' l.length (Nat.le_refl _)
  omega

theorem mv_take_succ {d : Int} {l : List (Int × Int)} {k : Nat} (h : k < l.length) : mv d (l.take (k + 1)) = mv d (l.take k) ++ [(tm l k + d, vl l k)] := by
  have e : (tm l k + d, vl l k) = (l[k].1 + d, l[k].2) := by simp [tm, vl, List.getD, List.getElem?_eq_getElem h]
  unfold mv
  rw [List.take_succ_eq_append_getElem h, List.map_append, e]; rfl

theorem bytes_len {l : List (Int × Int)} (r : Right l) : (bytes l).length ≤ 10010 := by
  unfold bytes
  have := upTo_len l l.length
  have := r.few
  omega

end Grain
