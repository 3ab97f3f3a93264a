/-
  A region that draws its order, walked by what it yields: the frame is a function of which operations have come up, the world meets a relation of it.
-/
import Derived.Orders
namespace Go.GrainU

def upd (L : Nat → Bool) (i : Nat) : Nat → Bool := fun j => if j = i then true else L j

/-- no guards, and none waits for a later one -/
def flowB (md : Region.Mode) (ops : Array Oper) : Bool :=
  (List.range ops.size).all fun i => match ops[i]? with
    | some o => o.guard.isNone && o.after.toList.all fun e => !Region.binds md e || decide (e.on < i)
    | none => true

theorem flowB_spec {md : Region.Mode} {ops : Array Oper} (h : flowB md ops = true) {i : Nat} {o : Oper} (ho : ops[i]? = some o) : o.guard = none ∧ ∀ e ∈ o.after, Region.binds md e = true → e.on < i := by
  have hi : i < ops.size := by
    rcases Nat.lt_or_ge i ops.size with h' | h'
    · exact h'
    · rw [Array.getElem?_eq_none h'] at ho; cases ho
  have h1 := List.all_eq_true.1 h i (List.mem_range.2 hi)
  simp only [ho, Bool.and_eq_true, List.all_eq_true] at h1
  refine ⟨by simpa using h1.1, fun e he hb => ?_⟩
  have := h1.2 e (by simpa using he)
  simpa [hb] using this

theorem least_false (L : Nat → Bool) : ∀ n, (∀ i, i < n → L i = true) ∨ ∃ i, i < n ∧ L i = false ∧ ∀ j, j < i → L j = true := by
  intro n
  induction n with
  | zero => exact .inl fun i hi => by omega
  | succ n ih =>
    rcases ih with h | ⟨i, hi, h1, h2⟩
    · cases hn : L n
      · exact .inr ⟨n, by omega, hn, h⟩
      · exact .inl fun i hi => by
          rcases (show i < n ∨ i = n from by omega) with h' | h'
          · exact h i h'
          · subst h'; exact hn
    · exact .inr ⟨i, by omega, h1, h2⟩

theorem count_set {listed : Array Bool} {i : Nat} (h : listed.getD i true = false) : (listed.setIfInBounds i true).toList.count false + 1 = listed.toList.count false := by
  have hi : i < listed.size := by
    rcases Nat.lt_or_ge i listed.size with h' | h'
    · exact h'
    · simp [Array.getD, Nat.not_lt.2 h'] at h
  have hg : listed.toList[i]? = some false := by
    simp [Array.getD, hi] at h
    simp [hi, h]
  rw [Array.toList_setIfInBounds, List.set_eq_take_append_cons_drop, if_pos (by simpa using hi)]
  have hl : listed.toList = listed.toList.take i ++ false :: listed.toList.drop (i + 1) := by
    have h2 : listed.toList[i]'(by simpa using hi) = false := by
      have := List.getElem?_eq_getElem (l := listed.toList) (i := i) (by simpa using hi)
      rw [hg] at this
      simpa using this.symm
    rw [← h2, List.getElem_cons_drop, List.take_append_drop]
  conv => rhs; rw [hl]
  simp only [List.count_append, List.count_cons]
  simp
  omega

theorem wpAny_flow {P : Program} {ops : Array Oper} {Q : Exit → Act → World → Prop} {md : Region.Mode} (F : (Nat → Bool) → Act) (WI : (Nat → Bool) → World → Prop) (hwf : flowB md ops = true)
    (hstep : ∀ L w i o, ops[i]? = some o → L i = false → (∀ e ∈ o.after, Region.binds md e = true → L e.on = true) → WI L w → o.wp P (F L) w (fun a' w' => a' = F (upd L i) ∧ WI (upd L i) w') Q)
    (hend : ∀ L w, (∀ i, i < ops.size → L i = true) → WI L w → Q .normal (F L) w) :
    ∀ (fuel : Nat) (listed : Array Bool) (w : World), listed.size = ops.size → listed.toList.count false ≤ fuel → WI (fun i => listed.getD i false) w → wpAny P md ops Q fuel listed (F fun i => listed.getD i false) w := by
  have all : ∀ (listed : Array Bool), listed.size = ops.size → Region.ready md ops listed = [] → ∀ i, i < ops.size → (fun i => listed.getD i false) i = true := by
    intro listed hs hr
    rcases least_false (fun i => listed.getD i false) ops.size with h | ⟨i, hi, h1, h2⟩
    · exact h
    · exfalso
      have hm : i ∈ Region.ready md ops listed := mem_ready.2 ⟨by
        have : i < listed.size := by omega
        simpa [Array.getD, this] using h1, ops[i], Array.getElem?_eq_getElem hi, fun e he hb => h2 _ ((flowB_spec hwf (Array.getElem?_eq_getElem hi)).2 e he hb)⟩
      rw [hr] at hm
      cases hm
  intro fuel
  induction fuel with
  | zero =>
    intro listed w hs hc hW
    have hr : Region.ready md ops listed = [] := by
      apply List.eq_nil_iff_forall_not_mem.2
      intro i hi
      have h1 := (mem_ready.1 hi).1
      have := count_set h1
      omega
    exact ⟨hr, hend _ w (all listed hs hr) hW⟩
  | succ fuel ih =>
    intro listed w hs hc hW
    refine ⟨fun hr => hend _ w (all listed hs hr) hW, fun i hi => ?_⟩
    obtain ⟨h1, o, ho, hd⟩ := mem_ready.1 hi
    have hil : i < listed.size := by
      rcases Nat.lt_or_ge i listed.size with h' | h'
      · exact h'
      · simp [Array.getD, Nat.not_lt.2 h'] at h1
    have hLi : (fun i => listed.getD i false) i = false := by simpa [Array.getD, hil] using h1
    have hU : (fun j => (listed.setIfInBounds i true).getD j false) = upd (fun i => listed.getD i false) i := by
      funext j
      unfold upd
      by_cases hj : j = i
      · subst hj; simp [Array.getD, hil]
      · rcases Nat.lt_or_ge j listed.size with h' | h'
        · simp [Array.getD, h', hj, Ne.symm hj]
        · simp [Array.getD, Nat.not_lt.2 h', hj]
    unfold wpOp
    rw [ho]
    simp only
    rw [if_pos (by simp [Region.wanted, (flowB_spec hwf ho).1])]
    refine .inl (Oper.wp_mono (fun a' w' h => ?_) (hstep _ w i o ho hLi hd hW))
    obtain ⟨rfl, hW'⟩ := h
    rw [← hU] at hW' ⊢
    exact ih _ w' (by simpa using hs) (by have := count_set h1; omega) hW'

theorem wp_region_flow {P : Program} {ops : Array Oper} {Q : Exit → Act → World → Prop} {id : Nat} {w : World} (F : (Nat → Bool) → Act) (WI : (Nat → Bool) → World → Prop) (hm : P.follows .mixedOrders = true) (hwf : flowB .any ops = true)
    (hstep : ∀ L w i o, ops[i]? = some o → L i = false → (∀ e ∈ o.after, Region.binds .any e = true → L e.on = true) → WI L w → o.wp P (F L) w (fun a' w' => a' = F (upd L i) ∧ WI (upd L i) w') Q)
    (hend : ∀ L w, (∀ i, i < ops.size → L i = true) → WI L w → Q .normal (F L) w) (h0 : WI (fun _ => false) { w with drawn := w.drawn + 1 }) : (Code.region id ops true).wp P Q (F fun _ => false) w := by
  apply wp_region_any hm
  have e : (fun i => (Array.replicate ops.size false).getD i false) = fun _ => false := by
    funext i
    rcases Nat.lt_or_ge i ops.size with h' | h'
    · simp [Array.getD, h']
    · simp [Array.getD, Nat.not_lt.2 h']
  have := wpAny_flow F WI hwf hstep hend ops.size (Array.replicate ops.size false) { w with drawn := w.drawn + 1 } (by simp) (by simp) (by rw [e]; exact h0)
  rw [e] at this
  exact this

end Go.GrainU
