import Derived.Orders
namespace Go.GrainU
def skipAct : List (Nat × Nat) → Act → Act
 | [], a => a
 | i :: r, a => skipAct r (a.put (some i.2) undef)
def skipSet : List (Nat × Nat) → Array Bool → Array Bool
 | [], l => l
 | i :: r, l => skipSet r (l.setIfInBounds i.1 true)
def skipOk (md : Region.Mode) (ops : Array Oper) : List (Nat × Nat) → Array Bool → Act → Bool
 | [], _, _ => true
 | i :: r, l, a => match ops[i.1]? with
  | some o => decide (o.dst = some i.2) && (Region.free md ops l i.1 && ((Region.ready md ops l).contains i.1 && (!(Region.wanted o (yielded ops a.tmps)) && skipOk md ops r (l.setIfInBounds i.1 true) (a.put (some i.2) undef))))
  | none => false
theorem wpAny_skips {P : Program} {ops : Array Oper} {Q : Exit → Act → World → Prop} {md : Region.Mode} (hs : Region.noSelect ops = true) (hQ : ∀ c a w (d : Nat), Q (.panic c) (a.put (some d) undef) w → Q (.panic c) a w) :
  ∀ (is : List (Nat × Nat)) (fuel fuel' : Nat) (listed : Array Bool) (a : Act) (w : World), fuel' = fuel + is.length → skipOk md ops is listed a = true → wpAny P md ops Q fuel (skipSet is listed) (skipAct is a) w → wpAny P md ops Q fuel' listed a w := by
 intro is
 induction is with
 | nil => intro fuel fuel' listed a w hf _ h; obtain rfl : fuel' = fuel := hf; exact h
 | cons i r ih =>
  intro fuel fuel' listed a w hf hok h
  unfold skipOk at hok
  cases ho : ops[i.1]? with
  | none => rw [ho] at hok; cases hok
  | some o =>
   rw [ho] at hok
   simp only [Bool.and_eq_true, Bool.not_eq_true', decide_eq_true_eq] at hok
   obtain ⟨h0, h1, h2, h3, h4⟩ := hok
   obtain rfl : fuel' = (fuel + r.length) + 1 := by rw [hf]; simp; omega
   refine wpAny_take (i := i.1) (v := undef) ho hs h1 h2 (fun c a w hh => hQ c a w i.2 (by rw [← h0]; exact hh)) (Or.inr ⟨h3, rfl⟩) (ih fuel _ _ _ w rfl (by rw [h0]; exact h4) ?_)
   rw [h0]
   exact h
end Go.GrainU
