/-
  An append of whatever slice to a row of the call's own, and where the row lies then; a shelf that is being made.
-/
import Derived.Test.YtcgcefnfelmmkaaShI
import Derived.Test.YtcgcefnfelmmkaaUtilE
namespace Go.GrainU
open Go.RowKit

theorem seg_news {w : World} {ad : Addr} {news : List Value} (hseg : Seg w (some ad) news) : ∀ j u, news[j]? = some u → w.cell? (ad.add j) = some u := by
  rcases hseg with hn | ⟨b, off, e1, hc⟩
  · subst hn; intro j u hu; simp at hu
  · simp at e1
    subst e1
    intro j u hu
    have hj : j < news.length := by
      rcases Nat.lt_or_ge j news.length with h | h
      · exact h
      · rw [List.getElem?_eq_none h] at hu; cases hu
    have := hc j hj
    rw [hu] at this
    rw [show (⟨b, off, none⟩ : Addr).add j = ⟨b, off + j, none⟩ from by unfold Addr.add; split <;> simp_all]
    exact this

theorem run_append_seg {P : Program} {w : World} (t ty : TypeId) (base : Nat) (e : TypeId) (i : TypeInfo) (z : Value) (size bytes : Nat) (ht : P.underlying t = some (.slice e)) (hi : P.info? e = some i) (hz : i.zero = some z)
    (hsize : i.size = size) (hby : i.bytes = bytes) (hzs : z.cells.size = size) (hsz : 0 < size)
    (v : Value) (n : Nat) (xs : List Value) (hown : w.ownsRow base e size v n xs)
    (ao : Option Addr) (m c : Nat) (news : List Value) (hao : ao = none → m = 0 ∧ c = 0) (hseg : Seg w ao news) (hl : news.length = m * size) (h1 : ∀ u ∈ news, u.oneCell' = true)
    (h63 : n + m ≤ maxLen) (hbytes : (n + m) * bytes ≤ 140737488355328) (hbase : base ≤ w.heap.size) :
    ∃ v' w', (Builtin.append_ #[t, t] ty #[v, .slice ao m c]).run P w = .ok v' w' ∧ w'.ownsRow base e size v' (n + m) (xs ++ news) ∧ w.grownBy w' v.ownBlock ∧ (v'.ownBlock = v.ownBlock ∨ v'.ownBlock = some w.heap.size) := by
  cases ao with
  | none =>
    obtain ⟨rfl, rfl⟩ := hao rfl
    have hn : news = [] := List.length_eq_zero_iff.mp (by omega)
    subst hn
    exact ⟨v, w, run_append_owned_none (P := P) (w := w) base t ty e i size ht hi v n xs hown, by simpa using hown, ⟨rfl, rfl, rfl, Nat.le_refl _, fun _ _ _ => rfl⟩, .inl rfl⟩
  | some ad =>
    have hnews := seg_news hseg
    rcases Nat.eq_zero_or_pos m with hm | hm
    · subst hm
      have hn : news = [] := List.length_eq_zero_iff.mp (by omega)
      subst hn
      obtain ⟨v', w', hr, h2, h3, h4⟩ := run_append_own (P := P) w base t ty e i z size bytes ht hi hz hsize hby hzs hsz v n xs hown ad 0 c [] (by simp) hnews h1 h63 hbytes hbase
      refine ⟨v', w', hr, h2, h3, .inl ?_⟩
      rcases hown.2 with ⟨hv, _⟩ | ⟨g, cap, cur, hv, _, hg, hcap, _, hcs, _⟩
      · have := h4.2 ⟨hv, rfl⟩
        rw [this, hv]
      · have hroom := run_append_room (P := P) w t ty e i ht hi g n cap cur hg ad 0 c [] (by simp) hnews h1 (by simpa using hcap) (by
          have : n * i.size ≤ cur.size := by rw [hcs, hsize]; exact Nat.mul_le_mul_right _ hcap
          simpa using this)
        rw [hv, hroom] at hr
        simp only [Result.ok.injEq] at hr
        rw [← hr.1, hv]
        rfl
    · obtain ⟨g, cap', w', hr, h2, h3, h4, _⟩ := run_append_lies (P := P) w t ty base e i z size bytes ht hi hz hsize hby hzs hsz v n xs hown ad m c news hl hnews h1 hm h63 hbytes hbase w.heap.size rfl
      refine ⟨_, w', hr, h2, h3, ?_⟩
      rcases h4 with h4 | h4
      · exact .inl h4.symm
      · exact .inr (by rw [h4]; rfl)

theorem step_append_seg {P : Program} {w : World} {ops : Array Oper} {o : Oper} {a : Act} {K : Act → World → Prop} {Q : Exit → Act → World → Prop} {E : Prop} (hw : Region.wanted o (yielded ops a.tmps) = true) (s x : Operand) (t : TypeId)
    (ho : o.op = .call { callee := .builtin .append, args := #[s, x], argTypes := #[t, t] })
    (base : Nat) (e : TypeId) (i : TypeInfo) (z : Value) (size bytes : Nat) (ht : P.underlying t = some (.slice e)) (hi : P.info? e = some i) (hz : i.zero = some z)
    (hsize : i.size = size) (hby : i.bytes = bytes) (hzs : z.cells.size = size) (hsz : 0 < size)
    (v : Value) (n : Nat) (xs : List Value) (hs : a.eval s = v) (hown : w.ownsRow base e size v n xs)
    (ao : Option Addr) (m c : Nat) (news : List Value) (hx : a.eval x = .slice ao m c) (hao : ao = none → m = 0 ∧ c = 0) (hseg : Seg w ao news) (hl : news.length = m * size) (h1 : ∀ u ∈ news, u.oneCell' = true)
    (h63 : n + m ≤ maxLen) (hbytes : (n + m) * bytes ≤ 140737488355328) (hbase : base ≤ w.heap.size)
    (h : ∀ v' w', w'.ownsRow base e size v' (n + m) (xs ++ news) → w.grownBy w' v.ownBlock → (v'.ownBlock = v.ownBlock ∨ v'.ownBlock = some w.heap.size) → K (a.put o.dst v') w') :
    if Region.wanted o (yielded ops a.tmps) = true then Oper.wp P o a w K Q else E := by
  rw [if_pos hw]
  obtain ⟨v', w', hr, h2, h3, h4⟩ := run_append_seg (P := P) t o.type base e i z size bytes ht hi hz hsize hby hzs hsz v n xs hown ao m c news hao hseg hl h1 h63 hbytes hbase
  unfold Oper.wp execOp
  simp only [ho, resolve, invoke, builtin, Sem.run_bind, Sem.run_pure, Result.andThen_ok, List.map_toArray, List.map_cons, List.map_nil, hs, hx, hr]
  exact h v' w' h2 h3 h4

end Go.GrainU
namespace Go.Proofs.Ytcgcefnfelmmkaa
open Go.RowKit Go.GrainU

/-- a shelf that is being made: the one that came in lies at X, the result behind it, the new one at Y -/
structure RS (w : World) (base X Y : Nat) (x z : ShT) (W : World) : Prop where
  y : W.heap[Y]? = some (so z)
  x : W.heap[X]? = some (so x)
  r : W.heap[X + 1]? = some (so szT)
  own : ShO base W z
  bel : Below w.heap.size w W
  dx : Y ≠ X
  dr : Y ≠ X + 1
  yw : w.heap.size ≤ Y
  xb : X + 1 < base
  xw : w.heap.size ≤ X

theorem ShO.below {base : Nat} {w w' : World} {y : ShT} (h : ShO base w y) (hb : Below w.heap.size w w') : ShO base w' y :=
  ⟨own_below h.o0 hb, own_below h.o1 hb, own_below h.o2 hb, own_below h.o3 hb, h.ne, h.fits, h.n0, h.n1, h.n2, h.n3⟩

theorem RS.call {w : World} {base X Y : Nat} {x z : ShT} {W W' : World} (h : RS w base X Y x z W) (hb : Below W.heap.size W W') : RS w base X Y x z W' :=
  ⟨below_block hb h.y, below_block hb h.x, below_block hb h.r, h.own.below hb, h.bel.trans (hb.mono h.bel.size), h.dx, h.dr, h.yw, h.xb, h.xw⟩

theorem ShO.set {base : Nat} {w : World} {y : ShT} (h : ShO base w y) {Y i : Nat} {z : ShT} (hY : w.heap[Y]? = some (so z)) (u : Value) : ShO base (w.setCell ⟨Y, i, none⟩ u) y :=
  ⟨ownsRow_setCell_other h.o0 (own_far h.o0 hY (by decide)) _, ownsRow_setCell_other h.o1 (own_far h.o1 hY (by decide)) _, ownsRow_setCell_other h.o2 (own_far h.o2 hY (by decide)) _, ownsRow_setCell_other h.o3 (own_far h.o3 hY (by decide)) _, h.ne, h.fits, h.n0, h.n1, h.n2, h.n3⟩

theorem ShO.heap {base : Nat} {w w' : World} {y : ShT} (h : ShO base w y) (hh : w'.heap = w.heap) : ShO base w' y :=
  ⟨own_heap hh h.o0, own_heap hh h.o1, own_heap hh h.o2, own_heap hh h.o3, h.ne, h.fits, h.n0, h.n1, h.n2, h.n3⟩

/-- a time stored -/
theorem RS.ft {w : World} {base X Y : Nat} {x z : ShT} {W W' : World} (h : RS w base X Y x z W) {N : Int} (hh : W'.heap = (W.setCell ⟨Y, 6, none⟩ (.int .i64 N)).heap) (hb : Below w.heap.size w W') :
    RS w base X Y x { z with s := { z.s with ft := N } } W' := by
  refine ⟨by rw [hh]; exact set_block h.y _, by rw [hh, setCell_far (fun e => h.dx e.symm)]; exact h.x, by rw [hh, setCell_far (fun e => h.dr e.symm)]; exact h.r, ?_, hb, h.dx, h.dr, h.yw, h.xb, h.xw⟩
  have := (h.own.set (i := 6) h.y (.int .i64 N)).heap hh
  exact ⟨this.o0, this.o1, this.o2, this.o3, this.ne, this.fits, this.n0, this.n1, this.n2, this.n3⟩

theorem RS.ct {w : World} {base X Y : Nat} {x z : ShT} {W W' : World} (h : RS w base X Y x z W) {N : Int} (hh : W'.heap = (W.setCell ⟨Y, 8, none⟩ (.int .i64 N)).heap) (hb : Below w.heap.size w W') :
    RS w base X Y x { z with s := { z.s with ct := N } } W' := by
  refine ⟨by rw [hh]; exact set_block h.y _, by rw [hh, setCell_far (fun e => h.dx e.symm)]; exact h.x, by rw [hh, setCell_far (fun e => h.dr e.symm)]; exact h.r, ?_, hb, h.dx, h.dr, h.yw, h.xb, h.xw⟩
  have := (h.own.set (i := 8) h.y (.int .i64 N)).heap hh
  exact ⟨this.o0, this.o1, this.o2, this.o3, this.ne, this.fits, this.n0, this.n1, this.n2, this.n3⟩

/-- fine buckets put behind the others -/
theorem RS.fine {w : World} {base X Y : Nat} {x z : ShT} {W W' : World} (h : RS w base X Y x z W) {A : Option Addr} {k D : Nat} {B : List Grain.Bk} (gr : W.grownBy W' (Value.slice z.a2 z.s.fi.length z.c2).ownBlock)
    (own : W'.ownsRow base 67 8 (.slice A k D) k (kcells B)) (hat : (Value.slice A k D).ownBlock = (Value.slice z.a2 z.s.fi.length z.c2).ownBlock ∨ (Value.slice A k D).ownBlock = some W.heap.size) (hn : B.length * 64 ≤ 140737488355328) :
    k = B.length ∧ RS w base X Y x { z with s := { z.s with fi := B }, a2 := A, c2 := D } (W'.setCell ⟨Y, 2, none⟩ (.slice A k D)) := by
  have hk := own_klen own
  subst hk
  refine ⟨rfl, ?_⟩
  have hlt : ∀ k o, W.heap[k]? = some o → k < W.heap.size := fun k o h => by
    rcases Nat.lt_or_ge k W.heap.size with h' | h'
    · exact h'
    · rw [Array.getElem?_eq_none h'] at h; cases h
  have k1 : ∀ {k : Nat} {q : ShT}, W.heap[k]? = some (so q) → W'.heap[k]? = some (so q) := fun {k q} hk => by
    rw [gr.block k (hlt k _ hk) (fun e => own_far h.own.o2 hk (by decide) e.symm)]; exact hk
  have y' := k1 h.y
  have o0 := own_keep h.own.o0 gr (own_types h.own.o0 h.own.o2 (by decide))
  have o1 := own_keep h.own.o1 gr (own_types h.own.o1 h.own.o2 (by decide))
  have o3 := own_keep h.own.o3 gr (fun k hk e => h.own.ne k e hk)
  have l3 := h.own.o3.lt
  have bel' : Below w.heap.size w W' := h.bel.grown gr h.bel.size (fun j hj => Nat.le_trans (Nat.le_trans h.xw (Nat.le_of_lt (Nat.lt_of_succ_lt h.xb))) (h.own.o2.lt j hj).1)
  refine ⟨set_block y' _, by rw [setCell_far (fun e => h.dx e.symm)]; exact k1 h.x, by rw [setCell_far (fun e => h.dr e.symm)]; exact k1 h.r, ?_, bel'.setCell h.yw _, h.dx, h.dr, h.yw, h.xb, h.xw⟩
  refine ⟨ownsRow_setCell_other o0 (own_far o0 y' (by decide)) _, ownsRow_setCell_other o1 (own_far o1 y' (by decide)) _, ownsRow_setCell_other own (own_far own y' (by decide)) _, ownsRow_setCell_other o3 (own_far o3 y' (by decide)) _, ?_, h.own.fits, h.own.n0, h.own.n1, hn, h.own.n3⟩
  intro g hg e
  rcases hat with hat | hat
  · exact h.own.ne g (hat.symm.trans hg) e
  · have e1 := hat.symm.trans hg
    simp only [Option.some.injEq] at e1
    have := (l3 g e).2
    omega

/-- coarse buckets put behind the others -/
theorem RS.coarse {w : World} {base X Y : Nat} {x z : ShT} {W W' : World} (h : RS w base X Y x z W) {A : Option Addr} {k D : Nat} {B : List Grain.Bk} (gr : W.grownBy W' (Value.slice z.a3 z.s.co.length z.c3).ownBlock)
    (own : W'.ownsRow base 67 8 (.slice A k D) k (kcells B)) (hat : (Value.slice A k D).ownBlock = (Value.slice z.a3 z.s.co.length z.c3).ownBlock ∨ (Value.slice A k D).ownBlock = some W.heap.size) (hn : B.length * 64 ≤ 140737488355328) :
    k = B.length ∧ RS w base X Y x { z with s := { z.s with co := B }, a3 := A, c3 := D } (W'.setCell ⟨Y, 3, none⟩ (.slice A k D)) := by
  have hk := own_klen own
  subst hk
  refine ⟨rfl, ?_⟩
  have hlt : ∀ k o, W.heap[k]? = some o → k < W.heap.size := fun k o h => by
    rcases Nat.lt_or_ge k W.heap.size with h' | h'
    · exact h'
    · rw [Array.getElem?_eq_none h'] at h; cases h
  have k1 : ∀ {k : Nat} {q : ShT}, W.heap[k]? = some (so q) → W'.heap[k]? = some (so q) := fun {k q} hk => by
    rw [gr.block k (hlt k _ hk) (fun e => own_far h.own.o3 hk (by decide) e.symm)]; exact hk
  have y' := k1 h.y
  have o0 := own_keep h.own.o0 gr (own_types h.own.o0 h.own.o3 (by decide))
  have o1 := own_keep h.own.o1 gr (own_types h.own.o1 h.own.o3 (by decide))
  have o2 := own_keep h.own.o2 gr (fun k hk e => h.own.ne k hk e)
  have l2 := h.own.o2.lt
  have bel' : Below w.heap.size w W' := h.bel.grown gr h.bel.size (fun j hj => Nat.le_trans (Nat.le_trans h.xw (Nat.le_of_lt (Nat.lt_of_succ_lt h.xb))) (h.own.o3.lt j hj).1)
  refine ⟨set_block y' _, by rw [setCell_far (fun e => h.dx e.symm)]; exact k1 h.x, by rw [setCell_far (fun e => h.dr e.symm)]; exact k1 h.r, ?_, bel'.setCell h.yw _, h.dx, h.dr, h.yw, h.xb, h.xw⟩
  refine ⟨ownsRow_setCell_other o0 (own_far o0 y' (by decide)) _, ownsRow_setCell_other o1 (own_far o1 y' (by decide)) _, ownsRow_setCell_other o2 (own_far o2 y' (by decide)) _, ownsRow_setCell_other own (own_far own y' (by decide)) _, ?_, h.own.fits, h.own.n0, h.own.n1, h.own.n2, hn⟩
  intro g hg e
  rcases hat with hat | hat
  · exact h.own.ne g hg (hat.symm.trans e)
  · have e1 := hat.symm.trans e
    simp only [Option.some.injEq] at e1
    have := (l2 g hg).2
    omega

end Go.Proofs.Ytcgcefnfelmmkaa
