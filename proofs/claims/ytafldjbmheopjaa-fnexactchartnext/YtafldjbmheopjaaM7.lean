/- Productions that are one's own, bodies and all. -/
import Derived.Test.YtafldjbmheopjaaM6
namespace Go.Proofs.Ytafldjbmheopjaa
open Go.RowKit
set_option linter.unusedVariables false

/-- Productions that are one's own: a row of them, and a row of symbols for each, none of which is another's. -/
structure OG (w : World) (base : Nat) (A : Option Addr) (cap : Nat) (xs : List Pv) : Prop where
  o : w.ownsRow base 57 2 (.slice A xs.length cap) xs.length (pvCells xs)
  d : ∀ i (h : i < xs.length), w.ownsRow base 68 3 xs[i].sl xs[i].p.body.length (symCells xs[i].p.body)
  ap : ∀ i j (hi : i < xs.length) (hj : j < xs.length), i ≠ j → ∀ b, xs[i].sl.ownBlock = some b → xs[j].sl.ownBlock ≠ some b

theorem OG.keep {w w' : World} {base : Nat} {A : Option Addr} {cap : Nat} {xs : List Pv} (h : OG w base A cap xs) (hb : Below w.heap.size w w') : OG w' base A cap xs :=
  ⟨own_keep h.o hb, fun i hi => own_keep (h.d i hi) hb, h.ap⟩
theorem OG.pds {w : World} {base : Nat} {A : Option Addr} {cap : Nat} {xs : List Pv} (h : OG w base A cap xs) : Pds w A (xs.map Pv.p) := by
  refine row_pds (own_rowN h.o) (fun x hx => ?_)
  obtain ⟨i, hi, rfl⟩ := List.getElem_of_mem hx
  exact (own_rowN (h.d i hi)).syms

theorem own_far {w : World} {base : Nat} {e : TypeId} {size : Nat} {v : Value} {n : Nat} {xs : List Value} (h : w.ownsRow base e size v n xs) {p : Addr} (hp : ∀ b, v.ownBlock = some b → b ≠ p.block) (u : Value) : (w.setCell p u).ownsRow base e size v n xs := by
  rcases h with ⟨hl, ⟨rfl, rfl⟩ | ⟨g, cap, cur, rfl, h1, h2, h3⟩⟩
  · exact ⟨hl, .inl ⟨rfl, rfl⟩⟩
  · exact ⟨hl, .inr ⟨g, cap, cur, rfl, h1, (Below.heap_setCell w p u g (hp g rfl)).trans h2, h3⟩⟩
theorem own_ne {w : World} {base base' : Nat} {e e' : TypeId} {size size' : Nat} {v v' : Value} {n n' : Nat} {xs xs' : List Value} (h : w.ownsRow base e size v n xs) (h' : w.ownsRow base' e' size' v' n' xs') (he : e ≠ e') : ∀ b, v.ownBlock = some b → v'.ownBlock ≠ some b := by
  intro b hb hb'
  rcases h with ⟨_, ⟨rfl, rfl⟩ | ⟨g, cap, cur, rfl, h1, h2, h3⟩⟩
  · cases hb
  · rcases h' with ⟨_, ⟨rfl, rfl⟩ | ⟨g', cap', cur', rfl, h1', h2', h3'⟩⟩
    · cases hb'
    · injection hb with hb
      injection hb' with hb'
      subst hb
      subst hb'
      rw [h2] at h2'
      injection h2' with h2'
      injection h2' with _ h2'
      exact he h2'

/-- While the bodies of productions are made one's own. -/
structure TRS (W : World) (A : Option Addr) (cap : Nat) (ys : List Pv) (k : Nat) (zs : List Pv) (w : World) : Prop where
  l : zs.length = ys.length
  p : zs.map Pv.p = ys.map Pv.p
  r : ∀ i (h : i < zs.length) (h' : i < ys.length), k ≤ i → zs[i] = ys[i]
  o : w.ownsRow W.heap.size 57 2 (.slice A ys.length cap) ys.length (pvCells zs)
  d : ∀ i (h : i < zs.length), i < k → w.ownsRow W.heap.size 68 3 zs[i].sl zs[i].p.body.length (symCells zs[i].p.body)
  ap : ∀ i j (hi : i < zs.length) (hj : j < zs.length), i < k → j < k → i ≠ j → ∀ b, zs[i].sl.ownBlock = some b → zs[j].sl.ownBlock ≠ some b
  b : Below W.heap.size W w

theorem TRS.keep {W w w' : World} {A : Option Addr} {cap k : Nat} {ys zs : List Pv} (h : TRS W A cap ys k zs w) (hb : Below w.heap.size w w') : TRS W A cap ys k zs w' :=
  ⟨h.l, h.p, h.r, own_keep h.o hb, fun i hi hk => own_keep (h.d i hi hk) hb, h.ap, h.b.trans (hb.mono h.b.size)⟩

theorem TRS.put {W w : World} {g cap k B c' : Nat} {K' : Option Addr} {ys zs : List Pv} (h : TRS W (some ⟨g, 0, none⟩) cap ys k zs w) (hk : k < ys.length)
    (hnew : w.ownsRow B 68 3 (.slice K' ys[k].p.body.length c') ys[k].p.body.length (symCells ys[k].p.body)) (hB : W.heap.size ≤ B) (hlt : ∀ i (h : i < zs.length), i < k → ∀ b, zs[i].sl.ownBlock = some b → b < B) :
    TRS W (some ⟨g, 0, none⟩) cap ys (k + 1) (zs.set k ⟨ys[k].p, K', c'⟩) (w.setCell ⟨g, k * 2 + 1, none⟩ (.slice K' ys[k].p.body.length c')) := by
  have hl := h.l
  have hzk : zs[k]'(by omega) = ys[k] := h.r k (by omega) hk (Nat.le_refl _)
  have hgW : W.heap.size ≤ g := (h.o.lt g rfl).1
  refine ⟨by simpa using hl, ?_, ?_, ?_, ?_, ?_, h.b.setCell hgW _⟩
  · rw [List.map_set, h.p]
    apply List.ext_getElem (by simp)
    intro i h1 h2
    rw [List.getElem_set]
    split
    · rename_i e; subst e; simp
    · rfl
  · intro i hi hi' hki
    rw [List.getElem_set_ne (by omega)]
    exact h.r i (by simpa using hi) hi' (by omega)
  · have := own_setN h.o (k * 2 + 1) (by omega) (.slice K' ys[k].p.body.length c')
    have e : (pvCells zs).set (k * 2 + 1) (.slice K' ys[k].p.body.length c') = pvCells (zs.set k ⟨ys[k].p, K', c'⟩) := by
      have e2 := pvCells_set zs ⟨ys[k].p, K', c'⟩ k (by omega)
      rw [← e2]
      have e3 : (pvCells zs).set (k * 2) (.int .i64 ys[k].p.head) = pvCells zs := by
        have := (pvCells_get zs k (by omega)).1
        rw [hzk] at this
        obtain ⟨h1, h2⟩ := List.getElem?_eq_some_iff.1 this
        rw [← h2]
        exact List.set_getElem_self h1
      show _ = ((pvCells zs).set (k * 2) (.int .i64 ys[k].p.head)).set (k * 2 + 1) _
      rw [e3]; rfl
    rw [e] at this
    exact this
  · intro i hi hik
    rw [List.getElem_set]
    split
    · refine own_far (own_base hnew hB) (fun b hb => ?_) _
      have := own_ne h.o hnew (by decide) g rfl
      intro e
      exact this (by rw [hb, e])
    · have hi' : i < zs.length := by simpa using hi
      refine own_far (h.d i hi' (by omega)) (fun b hb => ?_) _
      have := own_ne h.o (h.d i hi' (by omega)) (by decide) g rfl
      intro e
      exact this (by rw [hb, e])
  · intro i j hi hj hik hjk hij b
    have hi' : i < zs.length := by simpa using hi
    have hj' : j < zs.length := by simpa using hj
    rw [List.getElem_set, List.getElem_set]
    split
    · rename_i e
      rw [if_neg (by omega)]
      intro h1 h2
      have h3 := hlt j hj' (by omega) b h2
      have h4 := (hnew.lt b h1).1
      omega
    · split
      · intro h1 h2
        have h3 := hlt i hi' (by omega) b h1
        have h4 := (hnew.lt b h2).1
        omega
      · exact h.ap i j hi' hj' (by omega) (by omega) hij b

theorem TRS.done {W w : World} {A : Option Addr} {cap k : Nat} {ys zs : List Pv} (h : TRS W A cap ys k zs w) (hk : ys.length ≤ k) : OG w W.heap.size A cap zs := by
  have hl := h.l
  exact ⟨by rw [hl]; exact h.o, fun i hi => h.d i hi (by omega), fun i j hi hj hij => h.ap i j hi hj (by omega) (by omega) hij⟩

theorem own_ne_own {w : World} {base : Nat} {e t : TypeId} {size : Nat} {v : Value} {n g : Nat} {xs ys : List Value} (h : w.ownsRow base e size v n xs) (h' : Own w g t ys) (he : e ≠ t) : ∀ b, v.ownBlock = some b → b ≠ g := by
  intro b hb e2
  rcases h with ⟨_, ⟨rfl, rfl⟩ | ⟨g', cap, cur, rfl, h1, h2, h3⟩⟩
  · cases hb
  · injection hb with hb
    subst hb
    subst e2
    unfold Own at h'
    rw [h2] at h'
    injection h' with h'
    injection h' with _ h'
    exact he h'
theorem OG.far {w : World} {base g i : Nat} {t : TypeId} {A : Option Addr} {cap : Nat} {xs : List Pv} {ys : List Value} (h : OG w base A cap xs) (ho : Own w g t ys) (h1 : 57 ≠ t) (h2 : 68 ≠ t) (u : Value) : OG (w.setCell ⟨g, i, none⟩ u) base A cap xs :=
  ⟨own_far h.o (own_ne_own h.o ho h1) u, fun i hi => own_far (h.d i hi) (own_ne_own (h.d i hi) ho h2) u, h.ap⟩

/-- What impl.CfgTrim leaves. -/
def TrimPost (hd : Int) (ps : List Pd) (w : World) (e : Ending) (w' : World) : Prop :=
  ∃ hd' A cap zs, e = .returned (.agg #[.int .i64 hd', .slice A zs.length cap]) ∧ IsTrim hd ps hd' (zs.map Pv.p) ∧ OG w' w.heap.size A cap zs ∧ Below w.heap.size w w'

theorem filter_map_p (xs : List Pv) (f : Pd → Bool) : (xs.filter (fun x => f x.p)).map Pv.p = (xs.map Pv.p).filter f := by
  induction xs with
  | nil => rfl
  | cons x r ih =>
    simp only [List.filter_cons, List.map_cons]
    cases h : f x.p
    · simp [ih]
    · simp [ih]
theorem OB.ge {A : Option Addr} {n cap : Nat} {base : Nat} {w : World} {e : TypeId} {size : Nat} {xs : List Value} (h : w.ownsRow base e size (.slice A n cap) n xs) {k : Nat} (hk : OB A k) : base ≤ k ∧ k < w.heap.size := by
  refine h.lt k ?_
  unfold OB at hk
  cases A with
  | none => cases hk
  | some a => exact hk

theorem IsLeast.good {n : Nat} {ps : List Pd} {L : List Int} (h : IsLeast (n : Int) ps L) (hok : cfgOkB (n : Int) ps = true) : Good L ∧ L.length = n := by
  unfold IsLeast at h
  rw [if_pos hok] at h
  simp only [Int.toNat_natCast] at h
  exact ⟨h.1.good (ok_fit hok).1, h.1.length⟩

end Go.Proofs.Ytafldjbmheopjaa
