/-
  The walk of the document's Word: a map of all words, filled in whatever order, looked into.
-/
import Derived.Orders
import Derived.Test.YthohkokhimdamaaGreatP22
import Derived.Test.YthohkokhimdamaaGreatP38
/-
  A region that draws its order, walked by what it yields: the frame is a function of which operations have come up, the world meets a relation of it.
-/
namespace Go.GrainU

def upd (L : Nat → Bool) (i : Nat) : Nat → Bool := fun j => if j = i then true else L j

/-- no guards, and none waits for a later one -/
def flowB (md : Region.Mode) (ops : Array Oper) : Bool :=
  (List.range ops.size).all fun i => match ops[i]? with
    | some o => o.guard.isNone && o.after.toList.all fun e => !Region.binds md e || decide (e.on < i)
    | none => true

theorem flowB_spec {md : Region.Mode} {ops : Array Oper} (h : flowB md ops = true) {i : Nat} {o : Oper} (ho : ops[i]? = some o) : o.guard = none ∧ ∀ e ∈ o.after, Region.binds md e = true → e.on < i := by
  have hi : i < ops.size := by
    rcases Nat.lt_or_ge i ops.size with h' | h'
    · exact h'
    · rw [Array.getElem?_eq_none h'] at ho; cases ho
  have h1 := List.all_eq_true.1 h i (List.mem_range.2 hi)
  simp only [ho, Bool.and_eq_true, List.all_eq_true] at h1
  refine ⟨by simpa using h1.1, fun e he hb => ?_⟩
  have := h1.2 e (by simpa using he)
  simpa [hb] using this

theorem least_false (L : Nat → Bool) : ∀ n, (∀ i, i < n → L i = true) ∨ ∃ i, i < n ∧ L i = false ∧ ∀ j, j < i → L j = true := by
  intro n
  induction n with
  | zero => exact .inl fun i hi => by omega
  | succ n ih =>
    rcases ih with h | ⟨i, hi, h1, h2⟩
    · cases hn : L n
      · exact .inr ⟨n, by omega, hn, h⟩
      · exact .inl fun i hi => by
          rcases (show i < n ∨ i = n from by omega) with h' | h'
          · exact h i h'
          · subst h'; exact hn
    · exact .inr ⟨i, by omega, h1, h2⟩

theorem count_set {listed : Array Bool} {i : Nat} (h : listed.getD i true = false) : (listed.setIfInBounds i true).toList.count false + 1 = listed.toList.count false := by
  have hi : i < listed.size := by
    rcases Nat.lt_or_ge i listed.size with h' | h'
    · exact h'
    · simp [Array.getD, Nat.not_lt.2 h'] at h
  have hg : listed.toList[i]? = some false := by
    simp [Array.getD, hi] at h
    simp [hi, h]
  rw [Array.toList_setIfInBounds, List.set_eq_take_append_cons_drop, if_pos (by simpa using hi)]
  have hl : listed.toList = listed.toList.take i ++ false :: listed.toList.drop (i + 1) := by
    have h2 : listed.toList[i]'(by simpa using hi) = false := by
      have := List.getElem?_eq_getElem (l := listed.toList) (i := i) (by simpa using hi)
      rw [hg] at this
      simpa using this.symm
    rw [← h2, List.getElem_cons_drop, List.take_append_drop]
  conv => rhs; rw [hl]
  simp only [List.count_append, List.count_cons]
  simp
  omega

theorem wpAny_flow {P : Program} {ops : Array Oper} {Q : Exit → Act → World → Prop} {md : Region.Mode} (F : (Nat → Bool) → Act) (WI : (Nat → Bool) → World → Prop) (hwf : flowB md ops = true)
    (hstep : ∀ L w i o, ops[i]? = some o → L i = false → (∀ e ∈ o.after, Region.binds md e = true → L e.on = true) → WI L w → o.wp P (F L) w (fun a' w' => a' = F (upd L i) ∧ WI (upd L i) w') Q)
    (hend : ∀ L w, (∀ i, i < ops.size → L i = true) → WI L w → Q .normal (F L) w) :
    ∀ (fuel : Nat) (listed : Array Bool) (w : World), listed.size = ops.size → listed.toList.count false ≤ fuel → WI (fun i => listed.getD i false) w → wpAny P md ops Q fuel listed (F fun i => listed.getD i false) w := by
  have all : ∀ (listed : Array Bool), listed.size = ops.size → Region.ready md ops listed = [] → ∀ i, i < ops.size → (fun i => listed.getD i false) i = true := by
    intro listed hs hr
    rcases least_false (fun i => listed.getD i false) ops.size with h | ⟨i, hi, h1, h2⟩
    · exact h
    · exfalso
      have hm : i ∈ Region.ready md ops listed := mem_ready.2 ⟨by
        have : i < listed.size := by omega
        simpa [Array.getD, this] using h1, ops[i], Array.getElem?_eq_getElem hi, fun e he hb => h2 _ ((flowB_spec hwf (Array.getElem?_eq_getElem hi)).2 e he hb)⟩
      rw [hr] at hm
      cases hm
  intro fuel
  induction fuel with
  | zero =>
    intro listed w hs hc hW
    have hr : Region.ready md ops listed = [] := by
      apply List.eq_nil_iff_forall_not_mem.2
      intro i hi
      have h1 := (mem_ready.1 hi).1
      have := count_set h1
      omega
    exact ⟨hr, hend _ w (all listed hs hr) hW⟩
  | succ fuel ih =>
    intro listed w hs hc hW
    refine ⟨fun hr => hend _ w (all listed hs hr) hW, fun i hi => ?_⟩
    obtain ⟨h1, o, ho, hd⟩ := mem_ready.1 hi
    have hil : i < listed.size := by
      rcases Nat.lt_or_ge i listed.size with h' | h'
      · exact h'
      · simp [Array.getD, Nat.not_lt.2 h'] at h1
    have hLi : (fun i => listed.getD i false) i = false := by simpa [Array.getD, hil] using h1
    have hU : (fun j => (listed.setIfInBounds i true).getD j false) = upd (fun i => listed.getD i false) i := by
      funext j
      unfold upd
      by_cases hj : j = i
      · subst hj; simp [Array.getD, hil]
      · rcases Nat.lt_or_ge j listed.size with h' | h'
        · simp [Array.getD, h', hj, Ne.symm hj]
        · simp [Array.getD, Nat.not_lt.2 h', hj]
    unfold wpOp
    rw [ho]
    simp only
    rw [if_pos (by simp [Region.wanted, (flowB_spec hwf ho).1])]
    refine .inl (Oper.wp_mono (fun a' w' h => ?_) (hstep _ w i o ho hLi hd hW))
    obtain ⟨rfl, hW'⟩ := h
    rw [← hU] at hW' ⊢
    exact ih _ w' (by simpa using hs) (by have := count_set h1; omega) hW'

theorem wp_region_flow {P : Program} {ops : Array Oper} {Q : Exit → Act → World → Prop} {id : Nat} {w : World} (F : (Nat → Bool) → Act) (WI : (Nat → Bool) → World → Prop) (hm : P.follows .mixedOrders = true) (hwf : flowB .any ops = true)
    (hstep : ∀ L w i o, ops[i]? = some o → L i = false → (∀ e ∈ o.after, Region.binds .any e = true → L e.on = true) → WI L w → o.wp P (F L) w (fun a' w' => a' = F (upd L i) ∧ WI (upd L i) w') Q)
    (hend : ∀ L w, (∀ i, i < ops.size → L i = true) → WI L w → Q .normal (F L) w) (h0 : WI (fun _ => false) { w with drawn := w.drawn + 1 }) : (Code.region id ops true).wp P Q (F fun _ => false) w := by
  apply wp_region_any hm
  have e : (fun i => (Array.replicate ops.size false).getD i false) = fun _ => false := by
    funext i
    rcases Nat.lt_or_ge i ops.size with h' | h'
    · simp [Array.getD, h']
    · simp [Array.getD, Nat.not_lt.2 h']
  have := wpAny_flow F WI hwf hstep hend ops.size (Array.replicate ops.size false) { w with drawn := w.drawn + 1 } (by simp) (by simp) (by rw [e]; exact h0)
  rw [e] at this
  exact this

end Go.GrainU

/-
  The walk of the document's Word: a map of all words, filled in whatever order, looked into.
-/
namespace Go.Proofs.YthohkokhimdamaaGreat
open Go.RowKit Go.GrainU

def sl (b : Bool) (v : Value) : Value := cond b v undef

/-- the frame, by which operations have come up -/
def wF (w : World) (s : Grain.Sm) (x : ByteArray) (r : Int × Bool) (L : Nat → Bool) : Act := { tmps := #[.string x, .agg #[.int .i64 s.c, .int .i64 s.t, .int .i64 s.mn, .int .i64 s.mx, .int .i64 s.f, .int .i64 s.l, .int .i64 s.r], undef, .pointer (some ⟨w.heap.size, 0, none⟩), .int .i64 0, .bool false, sl (L 34) (.int .i64 r.1), sl (L 35) (.bool r.2), .pointer (some ⟨w.heap.size, 0, none⟩), .int .i64 s.c, .bool (decide (s.c < 1)), sl (L 31) (.tuple #[.int .i64 r.1, .bool r.2]), sl (L 0) (.map (some (w.heap.size + 1))), sl (L 1) (.pointer (some ⟨w.heap.size, 1, none⟩)), sl (L 2) (.int .i64 s.t), sl (L 3) (.pointer (some ⟨w.heap.size, 0, none⟩)), sl (L 4) (.int .i64 s.c), sl (L 5) (.int .i64 (s.t.tdiv s.c)), sl (L 7) (.pointer (some ⟨w.heap.size, 0, none⟩)), sl (L 8) (.int .i64 s.c), sl (L 10) (.pointer (some ⟨w.heap.size, 4, none⟩)), sl (L 11) (.int .i64 s.f), sl (L 13) (.pointer (some ⟨w.heap.size, 5, none⟩)), sl (L 14) (.int .i64 s.l), sl (L 16) (.pointer (some ⟨w.heap.size, 3, none⟩)), sl (L 17) (.int .i64 s.mx), sl (L 19) (.pointer (some ⟨w.heap.size, 2, none⟩)), sl (L 20) (.int .i64 s.mn), sl (L 22) (.pointer (some ⟨w.heap.size, 6, none⟩)), sl (L 23) (.int .i64 s.r), sl (L 25) (.pointer (some ⟨w.heap.size, 1, none⟩)), sl (L 26) (.int .i64 s.t), sl (L 28) (.map (some (w.heap.size + 1))), sl (L 29) (.string x), sl (L 30) (.tuple #[.int .i64 r.1, .bool r.2]), sl (L 32) (.int .i64 r.1), sl (L 33) (.bool r.2), undef, undef], defers := [] }

/-- what the map holds, by which operations have come up -/
def hasL (s : Grain.Sm) (L : Nat → Bool) (k : ByteArray) (v : Int) : Prop := (L 6 = true ∧ k = ⟨#[97, 118, 103]⟩ ∧ v = s.t.tdiv s.c) ∨ (L 9 = true ∧ k = ⟨#[99, 111, 117, 110, 116]⟩ ∧ v = s.c) ∨ (L 12 = true ∧ k = ⟨#[102, 105, 114, 115, 116]⟩ ∧ v = s.f) ∨ (L 15 = true ∧ k = ⟨#[108, 97, 115, 116]⟩ ∧ v = s.l) ∨ (L 18 = true ∧ k = ⟨#[109, 97, 120]⟩ ∧ v = s.mx) ∨ (L 21 = true ∧ k = ⟨#[109, 105, 110]⟩ ∧ v = s.mn) ∨ (L 24 = true ∧ k = ⟨#[114, 105, 115, 101]⟩ ∧ v = s.r) ∨ (L 27 = true ∧ k = ⟨#[115, 117, 109]⟩ ∧ v = s.t)

structure WI (w : World) (s : Grain.Sm) (L : Nat → Bool) (u : World) : Prop where
  box : SumAt u w.heap.size s
  bel : Below w.heap.size w u
  new : L 0 = false → u.heap.size = w.heap.size + 1 ∧ ∀ k v, ¬ hasL s L k v
  map : L 0 = true → MapHas u (w.heap.size + 1) (hasL s L)
  all : L 28 = true → ∀ i, i < 28 → L i = true

theorem WI.other {w u : World} {s : Grain.Sm} {L : Nat → Bool} (h : WI w s L u) (i : Nat) (hi : i ≠ 0) (hh : hasL s (upd L i) = hasL s L) (ha : upd L i 28 = true → ∀ j, j < 28 → upd L i j = true) : WI w s (upd L i) u := by
  have h0 : upd L i 0 = L 0 := by simp [upd, Ne.symm hi]
  exact ⟨h.box, h.bel, fun e => by rw [h0] at e; rw [hh]; exact h.new e, fun e => by rw [h0] at e; rw [hh]; exact h.map e, ha⟩

theorem has_put6 (s : Grain.Sm) (L : Nat → Bool) (hL : L 6 = false) : (fun k' v' => hasL s L k' v' ∨ (k' = ⟨#[97, 118, 103]⟩ ∧ v' = s.t.tdiv s.c)) = hasL s (upd L 6) := by
  funext k v
  apply propext
  constructor
  · rintro ((h | h | h | h | h | h | h | h) | h)
    · exact absurd h.1 (by rw [hL]; decide)
    · exact .inr (.inl (h))
    · exact .inr (.inr (.inl (h)))
    · exact .inr (.inr (.inr (.inl (h))))
    · exact .inr (.inr (.inr (.inr (.inl (h)))))
    · exact .inr (.inr (.inr (.inr (.inr (.inl (h))))))
    · exact .inr (.inr (.inr (.inr (.inr (.inr (.inl (h)))))))
    · exact .inr (.inr (.inr (.inr (.inr (.inr (.inr (h)))))))
    · exact .inl (⟨rfl, h.1, h.2⟩)
  · rintro (h | h | h | h | h | h | h | h)
    · exact .inr h.2
    · exact .inl (.inr (.inl (h)))
    · exact .inl (.inr (.inr (.inl (h))))
    · exact .inl (.inr (.inr (.inr (.inl (h)))))
    · exact .inl (.inr (.inr (.inr (.inr (.inl (h))))))
    · exact .inl (.inr (.inr (.inr (.inr (.inr (.inl (h)))))))
    · exact .inl (.inr (.inr (.inr (.inr (.inr (.inr (.inl (h))))))))
    · exact .inl (.inr (.inr (.inr (.inr (.inr (.inr (.inr (h))))))))

theorem has_put9 (s : Grain.Sm) (L : Nat → Bool) (hL : L 9 = false) : (fun k' v' => hasL s L k' v' ∨ (k' = ⟨#[99, 111, 117, 110, 116]⟩ ∧ v' = s.c)) = hasL s (upd L 9) := by
  funext k v
  apply propext
  constructor
  · rintro ((h | h | h | h | h | h | h | h) | h)
    · exact .inl (h)
    · exact absurd h.1 (by rw [hL]; decide)
    · exact .inr (.inr (.inl (h)))
    · exact .inr (.inr (.inr (.inl (h))))
    · exact .inr (.inr (.inr (.inr (.inl (h)))))
    · exact .inr (.inr (.inr (.inr (.inr (.inl (h))))))
    · exact .inr (.inr (.inr (.inr (.inr (.inr (.inl (h)))))))
    · exact .inr (.inr (.inr (.inr (.inr (.inr (.inr (h)))))))
    · exact .inr (.inl (⟨rfl, h.1, h.2⟩))
  · rintro (h | h | h | h | h | h | h | h)
    · exact .inl (.inl (h))
    · exact .inr h.2
    · exact .inl (.inr (.inr (.inl (h))))
    · exact .inl (.inr (.inr (.inr (.inl (h)))))
    · exact .inl (.inr (.inr (.inr (.inr (.inl (h))))))
    · exact .inl (.inr (.inr (.inr (.inr (.inr (.inl (h)))))))
    · exact .inl (.inr (.inr (.inr (.inr (.inr (.inr (.inl (h))))))))
    · exact .inl (.inr (.inr (.inr (.inr (.inr (.inr (.inr (h))))))))

theorem has_put12 (s : Grain.Sm) (L : Nat → Bool) (hL : L 12 = false) : (fun k' v' => hasL s L k' v' ∨ (k' = ⟨#[102, 105, 114, 115, 116]⟩ ∧ v' = s.f)) = hasL s (upd L 12) := by
  funext k v
  apply propext
  constructor
  · rintro ((h | h | h | h | h | h | h | h) | h)
    · exact .inl (h)
    · exact .inr (.inl (h))
    · exact absurd h.1 (by rw [hL]; decide)
    · exact .inr (.inr (.inr (.inl (h))))
    · exact .inr (.inr (.inr (.inr (.inl (h)))))
    · exact .inr (.inr (.inr (.inr (.inr (.inl (h))))))
    · exact .inr (.inr (.inr (.inr (.inr (.inr (.inl (h)))))))
    · exact .inr (.inr (.inr (.inr (.inr (.inr (.inr (h)))))))
    · exact .inr (.inr (.inl (⟨rfl, h.1, h.2⟩)))
  · rintro (h | h | h | h | h | h | h | h)
    · exact .inl (.inl (h))
    · exact .inl (.inr (.inl (h)))
    · exact .inr h.2
    · exact .inl (.inr (.inr (.inr (.inl (h)))))
    · exact .inl (.inr (.inr (.inr (.inr (.inl (h))))))
    · exact .inl (.inr (.inr (.inr (.inr (.inr (.inl (h)))))))
    · exact .inl (.inr (.inr (.inr (.inr (.inr (.inr (.inl (h))))))))
    · exact .inl (.inr (.inr (.inr (.inr (.inr (.inr (.inr (h))))))))

theorem has_put15 (s : Grain.Sm) (L : Nat → Bool) (hL : L 15 = false) : (fun k' v' => hasL s L k' v' ∨ (k' = ⟨#[108, 97, 115, 116]⟩ ∧ v' = s.l)) = hasL s (upd L 15) := by
  funext k v
  apply propext
  constructor
  · rintro ((h | h | h | h | h | h | h | h) | h)
    · exact .inl (h)
    · exact .inr (.inl (h))
    · exact .inr (.inr (.inl (h)))
    · exact absurd h.1 (by rw [hL]; decide)
    · exact .inr (.inr (.inr (.inr (.inl (h)))))
    · exact .inr (.inr (.inr (.inr (.inr (.inl (h))))))
    · exact .inr (.inr (.inr (.inr (.inr (.inr (.inl (h)))))))
    · exact .inr (.inr (.inr (.inr (.inr (.inr (.inr (h)))))))
    · exact .inr (.inr (.inr (.inl (⟨rfl, h.1, h.2⟩))))
  · rintro (h | h | h | h | h | h | h | h)
    · exact .inl (.inl (h))
    · exact .inl (.inr (.inl (h)))
    · exact .inl (.inr (.inr (.inl (h))))
    · exact .inr h.2
    · exact .inl (.inr (.inr (.inr (.inr (.inl (h))))))
    · exact .inl (.inr (.inr (.inr (.inr (.inr (.inl (h)))))))
    · exact .inl (.inr (.inr (.inr (.inr (.inr (.inr (.inl (h))))))))
    · exact .inl (.inr (.inr (.inr (.inr (.inr (.inr (.inr (h))))))))

theorem has_put18 (s : Grain.Sm) (L : Nat → Bool) (hL : L 18 = false) : (fun k' v' => hasL s L k' v' ∨ (k' = ⟨#[109, 97, 120]⟩ ∧ v' = s.mx)) = hasL s (upd L 18) := by
  funext k v
  apply propext
  constructor
  · rintro ((h | h | h | h | h | h | h | h) | h)
    · exact .inl (h)
    · exact .inr (.inl (h))
    · exact .inr (.inr (.inl (h)))
    · exact .inr (.inr (.inr (.inl (h))))
    · exact absurd h.1 (by rw [hL]; decide)
    · exact .inr (.inr (.inr (.inr (.inr (.inl (h))))))
    · exact .inr (.inr (.inr (.inr (.inr (.inr (.inl (h)))))))
    · exact .inr (.inr (.inr (.inr (.inr (.inr (.inr (h)))))))
    · exact .inr (.inr (.inr (.inr (.inl (⟨rfl, h.1, h.2⟩)))))
  · rintro (h | h | h | h | h | h | h | h)
    · exact .inl (.inl (h))
    · exact .inl (.inr (.inl (h)))
    · exact .inl (.inr (.inr (.inl (h))))
    · exact .inl (.inr (.inr (.inr (.inl (h)))))
    · exact .inr h.2
    · exact .inl (.inr (.inr (.inr (.inr (.inr (.inl (h)))))))
    · exact .inl (.inr (.inr (.inr (.inr (.inr (.inr (.inl (h))))))))
    · exact .inl (.inr (.inr (.inr (.inr (.inr (.inr (.inr (h))))))))

theorem has_put21 (s : Grain.Sm) (L : Nat → Bool) (hL : L 21 = false) : (fun k' v' => hasL s L k' v' ∨ (k' = ⟨#[109, 105, 110]⟩ ∧ v' = s.mn)) = hasL s (upd L 21) := by
  funext k v
  apply propext
  constructor
  · rintro ((h | h | h | h | h | h | h | h) | h)
    · exact .inl (h)
    · exact .inr (.inl (h))
    · exact .inr (.inr (.inl (h)))
    · exact .inr (.inr (.inr (.inl (h))))
    · exact .inr (.inr (.inr (.inr (.inl (h)))))
    · exact absurd h.1 (by rw [hL]; decide)
    · exact .inr (.inr (.inr (.inr (.inr (.inr (.inl (h)))))))
    · exact .inr (.inr (.inr (.inr (.inr (.inr (.inr (h)))))))
    · exact .inr (.inr (.inr (.inr (.inr (.inl (⟨rfl, h.1, h.2⟩))))))
  · rintro (h | h | h | h | h | h | h | h)
    · exact .inl (.inl (h))
    · exact .inl (.inr (.inl (h)))
    · exact .inl (.inr (.inr (.inl (h))))
    · exact .inl (.inr (.inr (.inr (.inl (h)))))
    · exact .inl (.inr (.inr (.inr (.inr (.inl (h))))))
    · exact .inr h.2
    · exact .inl (.inr (.inr (.inr (.inr (.inr (.inr (.inl (h))))))))
    · exact .inl (.inr (.inr (.inr (.inr (.inr (.inr (.inr (h))))))))

theorem has_put24 (s : Grain.Sm) (L : Nat → Bool) (hL : L 24 = false) : (fun k' v' => hasL s L k' v' ∨ (k' = ⟨#[114, 105, 115, 101]⟩ ∧ v' = s.r)) = hasL s (upd L 24) := by
  funext k v
  apply propext
  constructor
  · rintro ((h | h | h | h | h | h | h | h) | h)
    · exact .inl (h)
    · exact .inr (.inl (h))
    · exact .inr (.inr (.inl (h)))
    · exact .inr (.inr (.inr (.inl (h))))
    · exact .inr (.inr (.inr (.inr (.inl (h)))))
    · exact .inr (.inr (.inr (.inr (.inr (.inl (h))))))
    · exact absurd h.1 (by rw [hL]; decide)
    · exact .inr (.inr (.inr (.inr (.inr (.inr (.inr (h)))))))
    · exact .inr (.inr (.inr (.inr (.inr (.inr (.inl (⟨rfl, h.1, h.2⟩)))))))
  · rintro (h | h | h | h | h | h | h | h)
    · exact .inl (.inl (h))
    · exact .inl (.inr (.inl (h)))
    · exact .inl (.inr (.inr (.inl (h))))
    · exact .inl (.inr (.inr (.inr (.inl (h)))))
    · exact .inl (.inr (.inr (.inr (.inr (.inl (h))))))
    · exact .inl (.inr (.inr (.inr (.inr (.inr (.inl (h)))))))
    · exact .inr h.2
    · exact .inl (.inr (.inr (.inr (.inr (.inr (.inr (.inr (h))))))))

theorem has_put27 (s : Grain.Sm) (L : Nat → Bool) (hL : L 27 = false) : (fun k' v' => hasL s L k' v' ∨ (k' = ⟨#[115, 117, 109]⟩ ∧ v' = s.t)) = hasL s (upd L 27) := by
  funext k v
  apply propext
  constructor
  · rintro ((h | h | h | h | h | h | h | h) | h)
    · exact .inl (h)
    · exact .inr (.inl (h))
    · exact .inr (.inr (.inl (h)))
    · exact .inr (.inr (.inr (.inl (h))))
    · exact .inr (.inr (.inr (.inr (.inl (h)))))
    · exact .inr (.inr (.inr (.inr (.inr (.inl (h))))))
    · exact .inr (.inr (.inr (.inr (.inr (.inr (.inl (h)))))))
    · exact absurd h.1 (by rw [hL]; decide)
    · exact .inr (.inr (.inr (.inr (.inr (.inr (.inr (⟨rfl, h.1, h.2⟩)))))))
  · rintro (h | h | h | h | h | h | h | h)
    · exact .inl (.inl (h))
    · exact .inl (.inr (.inl (h)))
    · exact .inl (.inr (.inr (.inl (h))))
    · exact .inl (.inr (.inr (.inr (.inl (h)))))
    · exact .inl (.inr (.inr (.inr (.inr (.inl (h))))))
    · exact .inl (.inr (.inr (.inr (.inr (.inr (.inl (h)))))))
    · exact .inl (.inr (.inr (.inr (.inr (.inr (.inr (.inl (h))))))))
    · exact .inr h.2

theorem upd_true {L : Nat → Bool} {i j : Nat} (h : L j = true) : upd L i j = true := by
  unfold upd; split
  · rfl
  · exact h

/-- an operation that is neither the map's making, nor an insert, nor what waits for all of them -/
theorem WI.plain {w u : World} {s : Grain.Sm} {L : Nat → Bool} (h : WI w s L u) (i : Nat) (hi : i ≠ 0) (hh : hasL s (upd L i) = hasL s L) (h28 : i ≠ 28) : WI w s (upd L i) u :=
  h.other i hi hh (fun e j hj => upd_true (h.all (by unfold upd at e; rw [if_neg (Ne.symm h28)] at e; exact e) j hj))

/-- an insert -/
theorem WI.put {w u : World} {s : Grain.Sm} {L : Nat → Bool} (h : WI w s L u) (h0 : L 0 = true) (i : Nat) (hi : i ≠ 0) (h28 : i ≠ 28) (k : ByteArray) (v : Int) (hfree : ∀ v', ¬ hasL s L k v')
    (hh : (fun k' v' => hasL s L k' v' ∨ (k' = k ∧ v' = v)) = hasL s (upd L i)) :
    ∃ u', (Instr.mapUpdate 105 (.map (some (w.heap.size + 1))) (.string k) (.int .i64 v)).run Tryz.prog u = .ok () u' ∧ WI w s (upd L i) u' := by
  obtain ⟨u', hrun, hmap, hbel, hfar, hsz⟩ := map_put (P := Tryz.prog) Tryz.underlying105 Tryz.underlying9 (h.map h0) k v hfree
  refine ⟨u', hrun, ?_, h.bel.trans (hbel.mono (by omega)), fun e => ?_, fun _ => by rw [← hh]; exact hmap, fun e j hj => upd_true (h.all (by unfold upd at e; rw [if_neg (Ne.symm h28)] at e; exact e) j hj)⟩
  · unfold SumAt; rw [hfar _ (by omega)]; exact h.box
  · unfold upd at e; rw [if_neg (Ne.symm hi), h0] at e; cases e

theorem WI.make {w u : World} {s : Grain.Sm} {L : Nat → Bool} (h : WI w s L u) (h0 : L 0 = false) : (Instr.makeMap 105 none).run Tryz.prog u = .ok (.map (some (w.heap.size + 1))) (u.alloc (.map #[] 0)) ∧ WI w s (upd L 0) (u.alloc (.map #[] 0)) := by
  obtain ⟨hs, hno⟩ := h.new h0
  have hh : hasL s (upd L 0) = hasL s L := by funext k v; simp [hasL, upd]
  refine ⟨by rw [run_makeMap, hs], ?_, h.bel.alloc h.bel.size _, fun e => by simp [upd] at e, fun _ => ⟨#[], 0, ?_, fun e he => by simp at he, fun k v hv => ?_⟩, fun e j hj => upd_true (h.all (by simpa [upd] using e) j hj)⟩
  · unfold SumAt; rw [Below.heap_alloc _ _ _ (lt_of_block h.box)]; exact h.box
  · rw [← hs]; exact heap_alloc_new u _
  · rw [hh] at hv; exact absurd hv (hno k v)

end Go.Proofs.YthohkokhimdamaaGreat
