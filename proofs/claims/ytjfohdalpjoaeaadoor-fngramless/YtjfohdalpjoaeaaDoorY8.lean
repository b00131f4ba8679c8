/- A grammar is spoilt: l71Spoil. -/
import Derived.Test.YtjfohdalpjoaeaaDoorY7
import Derived.Deep.CutBlock
namespace Go.Proofs.YtjfohdalpjoaeaaDoor
open Go.RowKit
set_option linter.unusedVariables false

/-- A grammar that is being spoilt at rule k: the variable g, the result's block, the row of rules, the part in block X. -/
structure SS (w0 : World) (B0 B g N X k : Nat) (F : Nat → Prop) (rs : List Ru) (a : Option Addr) (c : Nat) (cs : List Value) (base : Nat) (w : World) : Prop where
  gv : Own w w0.heap.size 25 [.slice a rs.length c]
  r : Own w (w0.heap.size + 1) 25 [.slice none 0 0]
  row : ∃ xs, w.ownsRow base 33 8 (.slice a rs.length c) rs.length xs ∧ ∀ i (h : i < rs.length), ∃ ci, eig xs i = .string rs[i].name :: ci ∧ ci.length = 7 ∧ (i ≠ k → PtC w F ci rs[i].p)
  x : Own w X 31 cs
  rd : Rd w B g N
  fr : Below B0 w0 w
  hk : k < rs.length
  lim : ∀ i (h : i < rs.length), rs[i].name.size ≤ 5000 ∧ (i ≠ k → Lim 5000 rs[i].p)
  hF : ∀ b, F b → base ≤ b ∧ b < w0.heap.size ∧ (Value.slice a rs.length c).ownBlock ≠ some b
  ord : B0 ≤ g ∧ B0 ≤ base ∧ B ≤ base ∧ base ≤ w0.heap.size ∧ w0.heap.size + 2 ≤ X
section
variable {w0 w w' : World} {B0 B g N N' X k : Nat} {F : Nat → Prop} {rs : List Ru} {a : Option Addr} {c : Nat} {cs : List Value} {base : Nat}
theorem SS.xlt (h : SS w0 B0 B g N X k F rs a c cs base w) : w0.heap.size + 2 ≤ X ∧ X < w.heap.size := ⟨h.ord.2.2.2.2, h.x.lt⟩
/-- What leaves all of it as it is. -/
theorem SS.same (h : SS w0 B0 B g N X k F rs a c cs base w) (hb : ∀ b, base ≤ b → b < w.heap.size → (b < w0.heap.size ∨ b ≤ X ∨ (Value.slice a rs.length c).ownBlock = some b) → w'.heap[b]? = w.heap[b]?) (hr : Rd w' B g N') (hf : Below B0 w0 w') : SS w0 B0 B g N' X k F rs a c cs base w' := by
  have ho := h.ord
  have hx := h.x.lt
  obtain ⟨xs, h1, h2⟩ := h.row
  exact ⟨(hb _ (by omega) h.gv.lt (by omega)).trans h.gv, (hb _ (by omega) h.r.lt (by omega)).trans h.r, ⟨xs, own_same h1 fun b hk => hb b (h1.lt b hk).1 (h1.lt b hk).2 (.inr (.inr hk)), fun i hi => by
    obtain ⟨ci, q1, q2, q3⟩ := h2 i hi
    exact ⟨ci, q1, q2, fun hne => (q3 hne).mv fun b hF hl => hb b (h.hF b hF).1 hl (.inl (h.hF b hF).2.1)⟩⟩, (hb _ (by omega) h.x.lt (by omega)).trans h.x, hr, hf, h.hk, h.lim, h.hF, ho⟩
theorem SS.touch (h : SS w0 B0 B g N X k F rs a c cs base w) (hg : w.grownBy w' (some g)) (hr : Rd w' B g N') : SS w0 B0 B g N' X k F rs a c cs base w' :=
  h.same (fun b hb hl _ => hg.block b hl (fun e => by injection e with e; have := h.rd.ltB; have := h.ord; omega)) hr (h.fr.grown hg (by have := h.xlt; have := h.ord; omega) (fun k hk => by injection hk with hk; have := h.ord; omega))
theorem SS.alloc (h : SS w0 B0 B g N X k F rs a c cs base w) (o : Obj) : SS w0 B0 B g N X k F rs a c cs base (w.alloc o) :=
  h.same (fun b _ hl _ => Below.heap_alloc w o b hl) (h.rd.alloc (by have := h.xlt; have := h.ord; omega) o) (h.fr.alloc (by have := h.xlt; have := h.ord; omega) o)
theorem SS.drew (h : SS w0 B0 B g N X k F rs a c cs base w) : SS w0 B0 B g N X k F rs a c cs base w.drew := h.same (fun _ _ _ _ => rfl) h.rd.drew h.fr.drew
theorem SS.mono (h : SS w0 B0 B g N X k F rs a c cs base w) (hN : N ≤ N') : SS w0 B0 B g N' X k F rs a c cs base w := h.same (fun _ _ _ _ => rfl) (h.rd.mono (Nat.le_refl _) hN) h.fr
/-- The part is written. -/
theorem SS.setX (h : SS w0 B0 B g N X k F rs a c cs base w) (i : Nat) (u : Value) : SS w0 B0 B g N X k F rs a c (cs.set i u) base (w.setCell ⟨X, i, none⟩ u) := by
  have ho := h.ord
  have hx := h.x.lt
  obtain ⟨xs, h1, h2⟩ := h.row
  have hrow := own_ne_own h1 h.x (by decide)
  exact ⟨h.gv.far (by simp only; omega) u, h.r.far (by simp only; omega) u, ⟨xs, own_far h1 hrow u, fun i hi => by
    obtain ⟨ci, q1, q2, q3⟩ := h2 i hi
    exact ⟨ci, q1, q2, fun hne => (q3 hne).mv fun b hF hl => Below.heap_setCell _ _ _ b (by have := (h.hF b hF).2.1; simp only; omega)⟩⟩, h.x.set_ i u, h.rd.setCell (by simp only; omega) u, h.fr.setCell (by simp only; omega) u, h.hk, h.lim, h.hF, ho⟩
end

theorem eig_set {xs : List Value} {k i : Nat} {u : Value} (hi : i * 8 + 8 ≤ xs.length) (hk : k * 8 + 8 ≤ xs.length) {nm : ByteArray} {ci : List Value} (h : eig xs i = .string nm :: ci) (hc : ci.length = 7) :
    eig (xs.set (k * 8) u) i = (if i = k then u else .string nm) :: ci := by
  apply List.ext_getElem?
  intro j
  have he : (eig (xs.set (k * 8) u) i).length = 8 := by unfold eig; simp; omega
  by_cases hj : j < 8
  · rw [eig_get hj]
    have h0 : (eig xs i)[j]? = xs[i * 8 + j]? := eig_get hj
    rw [h] at h0
    by_cases e : i = k
    · subst e
      rw [if_pos rfl]
      cases j with
      | zero => rw [Nat.add_zero, List.getElem?_set_self (by omega)]; rfl
      | succ j => rw [List.getElem?_set_ne (by omega), ← h0]; rfl
    · rw [if_neg e, List.getElem?_set_ne (by omega), ← h0]
  · rw [List.getElem?_eq_none (by omega), List.getElem?_eq_none (by simp; omega)]
/-- The rule gets another name. -/
theorem SS.setName {w0 w : World} {B0 B g N X k R : Nat} {F : Nat → Prop} {rs : List Ru} {c : Nat} {cs : List Value} {base : Nat} (h : SS w0 B0 B g N X k F rs (some ⟨R, 0, none⟩) c cs base w) (s : ByteArray) (hs : s.size ≤ 5000) (hk : k < rs.length) :
    SS w0 B0 B g N X k F (rs.set k ⟨s, rs[k].p⟩) (some ⟨R, 0, none⟩) c cs base (w.setCell ⟨R, k * 8, none⟩ (.string s)) ∧ w.frozen? ⟨R, k * 8, none⟩ = false ∧ (∃ u, w.cell? ⟨R, k * 8, none⟩ = some u) := by
  have ho := h.ord
  obtain ⟨xs, h1, h2⟩ := h.row
  have hl := h1.1
  have hRb := h1.lt R rfl
  have hRG := own_ne_own h1 h.gv (by decide) R rfl
  have hRR := own_ne_own h1 h.r (by decide) R rfl
  have hRX : R ≠ X := by
    intro e
    obtain ⟨c1, q1⟩ := own_kind h1 (k := R) rfl
    have q2 := h.x
    unfold Own at q2
    rw [e] at q1
    rw [q1] at q2
    injection q2 with q2
    injection q2 with _ q2
    exact absurd q2 (by decide)
  have hlen : (rs.set k ⟨s, rs[k].p⟩).length = rs.length := by simp
  have hst := (h1.stored (k * 8) (.string s)).1
  refine ⟨⟨by rw [hlen]; exact h.gv.far (fun e => hRG e.symm) _, h.r.far (fun e => hRR e.symm) _, ⟨xs.set (k * 8) (.string s), by rw [hlen]; exact hst, fun i hi => ?_⟩, h.x.far (fun e => hRX e.symm) _, h.rd.setCell (by show B ≤ R; omega) _, h.fr.setCell (by show B0 ≤ R; omega) _, by rw [hlen]; exact hk, fun i hi => ?_, by rw [hlen]; exact h.hF, ho⟩, h1.frozenAt _, ?_⟩
  · rw [hlen] at hi
    obtain ⟨ci, q1, q2, q3⟩ := h2 i hi
    refine ⟨ci, ?_, q2, fun hne => ?_⟩
    · rw [eig_set (by omega) (by omega) q1 q2]
      by_cases e : i = k
      · subst e; simp
      · simp [e, List.getElem_set_ne (show k ≠ i by omega)]
    · rw [List.getElem_set_ne (by omega)]
      exact (q3 hne).mv fun b hF hl' => Below.heap_setCell _ _ _ b (by
        have := (h.hF b hF).2.2
        show b ≠ R
        intro e
        exact this (by rw [e]; rfl))
  · rw [hlen] at hi
    by_cases e : i = k
    · subst e; rw [List.getElem_set_self]; exact ⟨hs, fun h => absurd rfl h⟩
    · rw [List.getElem_set_ne (by omega)]; exact h.lim i hi
  · have : k * 8 < xs.length := by omega
    exact ⟨xs[k * 8], own_cellN h1 _ _ (List.getElem?_eq_getElem this)⟩

/-- The rule that is to be spoilt, and the others. -/
structure GP (w : World) (base T k : Nat) (rs : List Ru) (a : Option Addr) (c : Nat) (xs : List Value) (F : Nat → Prop) (s e Rb : Nat) (kk : Int) (t : ByteArray) (lo hi : List Int) (kids : List Pt) (mn mx : Int) (A C K : Option Addr) (ca cc kc : Nat) : Prop where
  ha : a = some ⟨Rb, 0, none⟩
  row : w.ownsRow base 33 8 (.slice a rs.length c) rs.length xs
  ru : ∀ i (h : i < rs.length), ∃ ci, eig xs i = .string rs[i].name :: ci ∧ ci.length = 7 ∧ (i ≠ k → PtC w F ci rs[i].p)
  hk : k < rs.length
  kp : rs[k].p = .mk kk t lo hi kids mn mx
  kcel : ∀ j u, (c7 kk t A lo.length ca C hi.length cc K kids.length kc mn mx)[j]? = some u → w.cell? ⟨Rb, k * 8 + 1 + j, none⟩ = some u
  op : OPt w s e lo hi kids A C K ca cc kc
  hF : ∀ b, F b → base ≤ b ∧ b < T ∧ b ≠ Rb ∧ ¬ (s ≤ b ∧ b < e)
  hs : base ≤ s ∧ e ≤ T ∧ (Rb < s ∨ e ≤ Rb) ∧ base ≤ Rb ∧ Rb < T ∧ T ≤ w.heap.size
theorem GR.pick {w : World} {base T c : Nat} {rs : List Ru} {a : Option Addr} (h : GR w base T (.slice a rs.length c) rs) {k : Nat} (hk : k < rs.length) :
    ∃ xs F s e Rb kk t lo hi kids mn mx A C K ca cc kc, GP w base T k rs a c xs F s e Rb kk t lo hi kids mn mx A C K ca cc kc := by
  obtain ⟨xs, sf, ef, h1, h2, h3, h4, h5, h6⟩ := h
  obtain ⟨Rb, cap, ev, hge, _⟩ := own_some h1 (by omega)
  injection ev with e1 e2 e3
  subst e1 e3
  obtain ⟨kk, t, lo, hi, kids, mn, mx, A, C, K, ca, cc, kc, q1, q2, q3⟩ := h2 k hk
  have hRT := h5 Rb rfl
  have hl := h1.1
  refine ⟨xs, fun b => ∃ i, i < rs.length ∧ i ≠ k ∧ sf i ≤ b ∧ b < ef i, sf k, ef k, Rb, kk, t, lo, hi, kids, mn, mx, A, C, K, ca, cc, kc, rfl, h1, fun i hi => ?_, hk, q2, fun j u hu => ?_, q3, fun b hb => ?_, (h3 k hk).1, (h3 k hk).2.1, (h3 k hk).2.2 Rb rfl, hge, hRT, h6⟩
  · obtain ⟨kk, t, lo, hi', kids, mn, mx, A, C, K, ca, cc, kc, q1, q2, q3⟩ := h2 i hi
    refine ⟨_, q1, rfl, fun hne => ?_⟩
    rw [q2]
    exact (q3.ptC kk t mn mx).mono fun b hb _ => ⟨i, hi, hne, hb⟩
  · have hj : j < 7 := (List.getElem?_eq_some_iff.1 hu).1
    have hu2 : (eig xs k)[j + 1]? = some u := by rw [q1]; simpa using hu
    rw [eig_get (by omega)] at hu2
    rw [show k * 8 + 1 + j = k * 8 + (j + 1) by omega]
    exact own_cellN h1 _ u hu2
  · obtain ⟨i, hi, hne, hb1, hb2⟩ := hb
    have := h3 i hi
    have h7 := h4 i k hi hk hne
    exact ⟨by omega, by omega, fun e => by subst e; have := this.2.2 b rfl; omega, by omega⟩
section
variable {w w' : World} {base T k : Nat} {rs : List Ru} {a : Option Addr} {c : Nat} {xs : List Value} {F : Nat → Prop} {s e Rb : Nat} {kk : Int} {t : ByteArray} {lo hi : List Int} {kids : List Pt} {mn mx : Int} {A C K : Option Addr} {ca cc kc : Nat}
theorem GP.keep (h : GP w base T k rs a c xs F s e Rb kk t lo hi kids mn mx A C K ca cc kc) (hs : w.heap.size ≤ w'.heap.size) (hb : ∀ b, base ≤ b → b < w.heap.size → w'.heap[b]? = w.heap[b]?) : GP w' base T k rs a c xs F s e Rb kk t lo hi kids mn mx A C K ca cc kc :=
  ⟨h.ha, own_same h.row fun b hk => hb b (h.row.lt b hk).1 (h.row.lt b hk).2, fun i hi => by
    obtain ⟨ci, q1, q2, q3⟩ := h.ru i hi
    exact ⟨ci, q1, q2, fun hne => (q3 hne).mv fun b hF hl => hb b (h.hF b hF).1 hl⟩, h.hk, h.kp, fun j u hu => by
    have := h.kcel j u hu
    rw [World.cell?_of_block (w := w) (hb Rb h.hs.2.2.2.1 (cell_lt this))]; exact this, h.op.keep fun b h1 _ h3 => hb b (by have := h.hs; omega) h3, h.hF, by have := h.hs; exact ⟨this.1, this.2.1, this.2.2.1, this.2.2.2.1, this.2.2.2.2.1, by omega⟩⟩
/-- The beginning: the rule's part is copied into block X. -/
theorem GP.ss {w0 w1 : World} {B0 B g N : Nat} (h : GP w1 base T k rs a c xs F s e Rb kk t lo hi kids mn mx A C K ca cc kc) (hgv : Own w1 w0.heap.size 25 [.slice a rs.length c]) (hr : Own w1 (w0.heap.size + 1) 25 [.slice none 0 0]) (hrd : Rd w1 B g N) (hfr : Below B0 w0 w1) (hT : T ≤ w0.heap.size) (hl : LimR 1000 rs)
    (ho : B0 ≤ g ∧ B0 ≤ base ∧ B ≤ base ∧ base ≤ w0.heap.size) (hw : w0.heap.size + 2 ≤ w1.heap.size) :
    SS w0 B0 B g N w1.heap.size k F rs a c (c7 kk t A lo.length ca C hi.length cc K kids.length kc mn mx) base (w1.alloc (.cells (c7 kk t A lo.length ca C hi.length cc K kids.length kc mn mx).toArray 31)) ∧
      OPt (w1.alloc (.cells (c7 kk t A lo.length ca C hi.length cc K kids.length kc mn mx).toArray 31)) s e lo hi kids A C K ca cc kc ∧ Lim 1000 (.mk kk t lo hi kids mn mx) := by
  have hk0 := h.hk
  have hkl := (hl rs[k] (List.getElem_mem h.hk)).2
  rw [h.kp] at hkl
  refine ⟨⟨hgv.alloc _, hr.alloc _, ⟨xs, h.row.alloc _, fun i hi => ?_⟩, Own.new w1 31 _, hrd.alloc (by omega) _, hfr.alloc (by omega) _, h.hk, fun i hi => ?_, fun b hb => ?_, ho.1, ho.2.1, ho.2.2.1, ho.2.2.2, hw⟩, h.op.keep fun b _ _ hl => Below.heap_alloc w1 _ b hl, hkl⟩
  · obtain ⟨ci, q1, q2, q3⟩ := h.ru i hi
    exact ⟨ci, q1, q2, fun hne => (q3 hne).mv fun b _ hl => Below.heap_alloc w1 _ b hl⟩
  · have := hl rs[i] (List.getElem_mem hi)
    exact ⟨by omega, fun _ => this.2.up (by omega)⟩
  · have := h.hF b hb
    refine ⟨this.1, by omega, fun e => ?_⟩
    rw [h.ha] at e
    injection e with e
    exact this.2.2.1 e.symm
end

theorem PtC.form {w : World} {F : Nat → Prop} {cs : List Value} {p : Pt} (h : PtC w F cs p) : ∃ (k : Int) (t : ByteArray) (lo hi : List Int) (kids : List Pt) (mn mx : Int) (A B K : Option Addr) (ca cb kc : Nat), cs = c7 k t A lo.length ca B hi.length cb K kids.length kc mn mx ∧ p = .mk k t lo hi kids mn mx := by
  cases h with
  | mk k t lo hi kids mn mx A B K ca cb kc => exact ⟨k, t, lo, hi, kids, mn, mx, A, B, K, ca, cb, kc, rfl, rfl⟩

/-- What is left when a grammar is spoilt. -/
def RC (w : World) (B0 : Nat) (a : Option Addr) (rs : List Ru) : Prop :=
  ∃ b, a = some ⟨b, 0, none⟩ ∧ B0 ≤ b ∧ ∀ i (h : i < rs.length), ∃ ci, w.cell? ⟨b, i * 8, none⟩ = some (.string rs[i].name) ∧ (∀ j u, ci[j]? = some u → w.cell? ⟨b, i * 8 + 1 + j, none⟩ = some u) ∧ PtC w (fun q => B0 ≤ q) ci rs[i].p
theorem RC.rus {w : World} {B0 : Nat} {a : Option Addr} {rs : List Ru} (h : RC w B0 a rs) : Rus w 0 a rs := by
  obtain ⟨b, e, _, h⟩ := h
  refine .inr ⟨b, 0, e, Nat.zero_le _, fun i hi => ?_⟩
  obtain ⟨ci, h1, h2, h3⟩ := h i hi
  refine ⟨by rw [Nat.zero_add]; exact h1, h3.ptAt fun j u hu => ?_⟩
  rw [Nat.zero_add]
  exact h2 j u hu
theorem RC.mv {w w' : World} {B0 : Nat} {a : Option Addr} {rs : List Ru} (h : RC w B0 a rs) (hb : ∀ b, B0 ≤ b → b < w.heap.size → w'.heap[b]? = w.heap[b]?) : RC w' B0 a rs := by
  obtain ⟨b, e, hB, h⟩ := h
  refine ⟨b, e, hB, fun i hi => ?_⟩
  obtain ⟨ci, h1, h2, h3⟩ := h i hi
  have mv : ∀ {o : Nat} {u : Value}, w.cell? ⟨b, o, none⟩ = some u → w'.cell? ⟨b, o, none⟩ = some u := fun hc => by
    rw [World.cell?_of_block (w := w) (hb b hB (cell_lt hc))]; exact hc
  exact ⟨ci, mv h1, fun j u hu => mv (h2 j u hu), h3.mv fun q hq hl => hb q hq hl⟩
def SpoilPost (w0 : World) (B0 : Nat) (e : Ending) (w' : World) : Prop :=
  ∃ (rs : List Ru) (a : Option Addr) (c : Nat), e = .returned (.agg #[.slice a rs.length c]) ∧ RC w' B0 a rs ∧ LimR 5000 rs ∧ rs.length ≤ 100 ∧ rs.length ≤ c ∧ Below B0 w0 w'

/-- The part that is there when the cases are through. -/
def PX (L : Nat) (w0 w : World) (X : Nat) (v : Value) (cs : List Value) (p : Pt) : Prop := ∃ Fp : Nat → Prop, PtC w Fp cs p ∧ Lim 5000 p ∧ ∀ b, Fp b → v.ownBlock ≠ some b ∧ b ≠ w0.heap.size ∧ b ≠ w0.heap.size + 1 ∧ b ≠ X ∧ L ≤ b

theorem own_cap {w : World} {base n c : Nat} {e : TypeId} {size : Nat} {A : Option Addr} {xs : List Value} (h : w.ownsRow base e size (.slice A n c) n xs) : n ≤ c := by
  rcases h.2 with ⟨hv, rfl⟩ | ⟨g, cap, cur, hv, _, _, h1, _⟩
  · exact Nat.zero_le _
  · injection hv with _ _ e3; omega
theorem seven_at {R o : Nat} {w : World} (a b c d e f k : Value) (i : Nat) (hi : i ≠ R) :
    (((((((w.setCell ⟨R, o, none⟩ a).setCell ⟨R, o + 1, none⟩ b).setCell ⟨R, o + 2, none⟩ c).setCell ⟨R, o + 3, none⟩ d).setCell ⟨R, o + 4, none⟩ e).setCell ⟨R, o + 5, none⟩ f).setCell ⟨R, o + 6, none⟩ k).heap[i]? = w.heap[i]? := by
  simp only [Below.heap_setCell _ ⟨R, _, none⟩ _ i hi]
/-- The end: the part is written back, and the result. -/
theorem SS.fin {w0 wc : World} {B0 B g N X k : Nat} {F Fp : Nat → Prop} {rs : List Ru} {R c : Nat} {base : Nat} {kk : Int} {t : ByteArray} {lo hi : List Int} {kids : List Pt} {mn mx : Int} {A C K : Option Addr} {ca cc kc : Nat}
    (HS : SS w0 B0 B g N X k F rs (some ⟨R, 0, none⟩) c (c7 kk t A lo.length ca C hi.length cc K kids.length kc mn mx) base wc) (HPC : PtC wc Fp (c7 kk t A lo.length ca C hi.length cc K kids.length kc mn mx) (.mk kk t lo hi kids mn mx)) (HPL : Lim 5000 (.mk kk t lo hi kids mn mx))
    (HPF : ∀ b, Fp b → (Value.slice (some ⟨R, 0, none⟩) rs.length c).ownBlock ≠ some b ∧ b ≠ w0.heap.size ∧ b ≠ w0.heap.size + 1 ∧ b ≠ X ∧ base ≤ b) (hrl : rs.length ≤ 100) :
    SpoilPost w0 B0 (.returned (.agg #[.slice (some ⟨R, 0, none⟩) rs.length c])) ((((((((wc.setCell ⟨R, k * 8 + 1, none⟩ (.int .i64 kk)).setCell ⟨R, k * 8 + 1 + 1, none⟩ (.string t)).setCell ⟨R, k * 8 + 1 + 2, none⟩ (.slice A lo.length ca)).setCell ⟨R, k * 8 + 1 + 3, none⟩ (.slice C hi.length cc)).setCell ⟨R, k * 8 + 1 + 4, none⟩ (.slice K kids.length kc)).setCell ⟨R, k * 8 + 1 + 5, none⟩ (.int .i64 mn)).setCell ⟨R, k * 8 + 1 + 6, none⟩ (.int .i64 mx)).setCell ⟨w0.heap.size + 1, 0, none⟩ (.slice (some ⟨R, 0, none⟩) rs.length c)) := by
  obtain ⟨xs, hrow, hru⟩ := HS.row
  have hk := HS.hk
  have ho := HS.ord
  have hRb := hrow.lt R rfl
  have hRG := own_ne_own hrow HS.r (by decide) R rfl
  have hl := hrow.1
  have s0 := (hrow.stored (k * 8 + 1) (.int .i64 kk)).1
  have s1 := (s0.stored (k * 8 + 1 + 1) (.string t)).1
  have s2 := (s1.stored (k * 8 + 1 + 2) (.slice A lo.length ca)).1
  have s3 := (s2.stored (k * 8 + 1 + 3) (.slice C hi.length cc)).1
  have s4 := (s3.stored (k * 8 + 1 + 4) (.slice K kids.length kc)).1
  have s5 := (s4.stored (k * 8 + 1 + 5) (.int .i64 mn)).1
  have s6 := (s5.stored (k * 8 + 1 + 6) (.int .i64 mx)).1
  have oth := fun q hq => seven_at (R := R) (o := k * 8 + 1) (w := wc) (.int .i64 kk) (.string t) (.slice A lo.length ca) (.slice C hi.length cc) (.slice K kids.length kc) (.int .i64 mn) (.int .i64 mx) q hq
  have hfr : Below B0 w0 (((((((wc.setCell ⟨R, k * 8 + 1, none⟩ (.int .i64 kk)).setCell ⟨R, k * 8 + 1 + 1, none⟩ (.string t)).setCell ⟨R, k * 8 + 1 + 2, none⟩ (.slice A lo.length ca)).setCell ⟨R, k * 8 + 1 + 3, none⟩ (.slice C hi.length cc)).setCell ⟨R, k * 8 + 1 + 4, none⟩ (.slice K kids.length kc)).setCell ⟨R, k * 8 + 1 + 5, none⟩ (.int .i64 mn)).setCell ⟨R, k * 8 + 1 + 6, none⟩ (.int .i64 mx)) := by
    have e : ∀ {w : World} (i : Nat) (u : Value), Below B0 w0 w → Below B0 w0 (w.setCell ⟨R, i, none⟩ u) := fun i u h => h.setCell (by show B0 ≤ R; omega) u
    exact e _ _ (e _ _ (e _ _ (e _ _ (e _ _ (e _ _ (e _ _ HS.fr))))))
  clear s0 s1 s2 s3 s4 s5
  generalize (((((((wc.setCell ⟨R, k * 8 + 1, none⟩ (.int .i64 kk)).setCell ⟨R, k * 8 + 1 + 1, none⟩ (.string t)).setCell ⟨R, k * 8 + 1 + 2, none⟩ (.slice A lo.length ca)).setCell ⟨R, k * 8 + 1 + 3, none⟩ (.slice C hi.length cc)).setCell ⟨R, k * 8 + 1 + 4, none⟩ (.slice K kids.length kc)).setCell ⟨R, k * 8 + 1 + 5, none⟩ (.int .i64 mn)).setCell ⟨R, k * 8 + 1 + 6, none⟩ (.int .i64 mx)) = V at *
  have hRne : ∀ b, (Value.slice (some ⟨R, 0, none⟩) rs.length c).ownBlock = some b → b ≠ (⟨w0.heap.size + 1, 0, none⟩ : Addr).block := fun b hb => by
    have : R = b := by simpa [Value.ownBlock] using hb
    show b ≠ w0.heap.size + 1
    omega
  have hrw : (V.setCell ⟨w0.heap.size + 1, 0, none⟩ (.slice (some ⟨R, 0, none⟩) rs.length c)).ownsRow base 33 8 (.slice (some ⟨R, 0, none⟩) rs.length c) rs.length _ := own_far s6 hRne _
  have mv : ∀ {F' : Nat → Prop} {cs : List Value} {p : Pt}, (∀ b, F' b → b ≠ R ∧ b ≠ w0.heap.size + 1) → PtC wc F' cs p → PtC (V.setCell ⟨w0.heap.size + 1, 0, none⟩ (.slice (some ⟨R, 0, none⟩) rs.length c)) F' cs p := fun hF h => h.mv fun b hb _ => (Below.heap_setCell _ _ _ b (hF b hb).2).trans (oth b (hF b hb).1)
  refine ⟨rs.set k ⟨rs[k].name, .mk kk t lo hi kids mn mx⟩, some ⟨R, 0, none⟩, c, by simp, ⟨R, rfl, by omega, fun i hj => ?_⟩, fun r hr => ?_, by simpa using hrl, by simpa using own_cap hrow, hfr.setCell (by show B0 ≤ w0.heap.size + 1; omega) _⟩
  · have hi' : i < rs.length := by simpa using hj
    obtain ⟨ci, q1, q2, q3⟩ := hru i hi'
    have cell : ∀ j u, j < 8 → (((((((xs.set (k * 8 + 1) (.int .i64 kk)).set (k * 8 + 1 + 1) (.string t)).set (k * 8 + 1 + 2) (.slice A lo.length ca)).set (k * 8 + 1 + 3) (.slice C hi.length cc)).set (k * 8 + 1 + 4) (.slice K kids.length kc)).set (k * 8 + 1 + 5) (.int .i64 mn)).set (k * 8 + 1 + 6) (.int .i64 mx))[i * 8 + j]? = some u → (V.setCell ⟨w0.heap.size + 1, 0, none⟩ (.slice (some ⟨R, 0, none⟩) rs.length c)).cell? ⟨R, i * 8 + j, none⟩ = some u := fun j u _ hu => by
      exact own_cellN hrw _ u hu
    have old : ∀ j u, (eig xs i)[j]? = some u → xs[i * 8 + j]? = some u := fun j u hu => by
      have hj : j < 8 := by
        have := (List.getElem?_eq_some_iff.1 hu).1
        rw [q1] at this
        simp [q2] at this
        omega
      rwa [eig_get hj] at hu
    by_cases e : i = k
    · subst e
      rw [List.getElem_set_self]
      refine ⟨_, ?_, fun j u hu => ?_, (mv (fun b hb => ⟨fun e => (HPF b hb).1 (by rw [e]; rfl), (HPF b hb).2.2.1⟩) HPC).mono fun b hb _ => by have := (HPF b hb).2.2.2.2; omega⟩
      · refine cell 0 _ (by omega) ?_
        simp only [List.getElem?_set_ne (show i * 8 + 1 ≠ i * 8 + 0 by omega), List.getElem?_set_ne (show i * 8 + 1 + 1 ≠ i * 8 + 0 by omega), List.getElem?_set_ne (show i * 8 + 1 + 2 ≠ i * 8 + 0 by omega), List.getElem?_set_ne (show i * 8 + 1 + 3 ≠ i * 8 + 0 by omega), List.getElem?_set_ne (show i * 8 + 1 + 4 ≠ i * 8 + 0 by omega), List.getElem?_set_ne (show i * 8 + 1 + 5 ≠ i * 8 + 0 by omega), List.getElem?_set_ne (show i * 8 + 1 + 6 ≠ i * 8 + 0 by omega)]
        exact old 0 _ (by rw [q1]; rfl)
      · have hj : j < 7 := (List.getElem?_eq_some_iff.1 hu).1
        rw [show i * 8 + 1 + j = i * 8 + (j + 1) by omega]
        refine cell (j + 1) u (by omega) ?_
        have : j = 0 ∨ j = 1 ∨ j = 2 ∨ j = 3 ∨ j = 4 ∨ j = 5 ∨ j = 6 := by omega
        have hx : i * 8 + 8 ≤ xs.length := by omega
        rcases this with rfl | rfl | rfl | rfl | rfl | rfl | rfl <;> (injection hu with hu; subst hu; simp only [List.getElem?_set, List.length_set]; simp <;> omega)
    · rw [List.getElem_set_ne (by omega)]
      have keep : ∀ j, j < 8 → (((((((xs.set (k * 8 + 1) (.int .i64 kk)).set (k * 8 + 1 + 1) (.string t)).set (k * 8 + 1 + 2) (.slice A lo.length ca)).set (k * 8 + 1 + 3) (.slice C hi.length cc)).set (k * 8 + 1 + 4) (.slice K kids.length kc)).set (k * 8 + 1 + 5) (.int .i64 mn)).set (k * 8 + 1 + 6) (.int .i64 mx))[i * 8 + j]? = xs[i * 8 + j]? := fun j hj => by
        simp only [List.getElem?_set_ne (show k * 8 + 1 ≠ i * 8 + j by omega), List.getElem?_set_ne (show k * 8 + 1 + 1 ≠ i * 8 + j by omega), List.getElem?_set_ne (show k * 8 + 1 + 2 ≠ i * 8 + j by omega), List.getElem?_set_ne (show k * 8 + 1 + 3 ≠ i * 8 + j by omega), List.getElem?_set_ne (show k * 8 + 1 + 4 ≠ i * 8 + j by omega), List.getElem?_set_ne (show k * 8 + 1 + 5 ≠ i * 8 + j by omega), List.getElem?_set_ne (show k * 8 + 1 + 6 ≠ i * 8 + j by omega)]
      refine ⟨ci, cell 0 _ (by omega) (by rw [keep 0 (by omega)]; exact old 0 _ (by rw [q1]; rfl)), fun j u hu => ?_, (mv (fun b hb => ?_) (q3 e)).mono fun b hb _ => by have := (HS.hF b hb).1; omega⟩
      · have hj : j < 7 := by have := (List.getElem?_eq_some_iff.1 hu).1; omega
        rw [show i * 8 + 1 + j = i * 8 + (j + 1) by omega]
        refine cell (j + 1) u (by omega) ?_
        rw [keep (j + 1) (by omega)]
        exact old (j + 1) u (by rw [q1]; simpa using hu)
      · have h := HS.hF b hb
        exact ⟨fun e => h.2.2 (by rw [e]; rfl), by omega⟩
  · obtain ⟨i, hj, rfl⟩ := List.getElem_of_mem hr
    have hi' : i < rs.length := by simpa using hj
    by_cases e : i = k
    · subst e
      rw [List.getElem_set_self]
      exact ⟨(HS.lim i hk).1, HPL⟩
    · rw [List.getElem_set_ne (by omega)]
      exact ⟨(HS.lim i hi').1, (HS.lim i hi').2 e⟩

/-- A row that is no part of the rules has grown. -/
theorem SS.grown {w0 w w' : World} {B0 B g N X k : Nat} {F : Nat → Prop} {rs : List Ru} {a : Option Addr} {c : Nat} {cs : List Value} {base : Nat} (h : SS w0 B0 B g N X k F rs a c cs base w) {row : Option Nat} (hg : w.grownBy w' row)
    (hr : ∀ q, row = some q → base ≤ q ∧ ¬ F q ∧ q ≠ w0.heap.size ∧ q ≠ w0.heap.size + 1 ∧ q ≠ X ∧ (Value.slice a rs.length c).ownBlock ≠ some q) : SS w0 B0 B g N X k F rs a c cs base w' := by
  have ho := h.ord
  have hx := h.x.lt
  obtain ⟨xs, h1, h2⟩ := h.row
  have ne : ∀ q, (row = some q → False) → q < w.heap.size → w'.heap[q]? = w.heap[q]? := fun q hq hl => hg.block q hl fun e => hq e.symm
  exact ⟨(ne _ (fun e => (hr _ e).2.2.1 rfl) h.gv.lt).trans h.gv, (ne _ (fun e => (hr _ e).2.2.2.1 rfl) h.r.lt).trans h.r, ⟨xs, own_same h1 fun b hk => ne b (fun e => (hr _ e).2.2.2.2.2 hk) (h1.lt b hk).2, fun i hi => by
    obtain ⟨ci, q1, q2, q3⟩ := h2 i hi
    exact ⟨ci, q1, q2, fun hne => (q3 hne).mv fun b hF hl => ne b (fun e => (hr _ e).2.1 hF) hl⟩⟩, (ne _ (fun e => (hr _ e).2.2.2.2.1 rfl) h.x.lt).trans h.x,
    h.rd.grown (by omega) hg (fun q hq => by have := (hr q hq).1; omega), h.fr.grown hg (by omega) (fun q hq => by have := (hr q hq).1; omega), h.hk, h.lim, h.hF, ho⟩
/-- Rows of one's own make a part. -/
theorem PtC.ofRows {w : World} {s : Nat} {Xp F : Nat → Prop} {lo hi : List Int} {kids : List Pt} {A B K : Option Addr} {ca cb n kc : Nat} (k : Int) (t : ByteArray) (mn mx : Int) (hA : Row w A (ints lo)) (hB : Row w B (ints hi)) (hK : KR w s Xp (.slice K n kc) kids)
    (fA : ∀ x, A = some x → F x.block) (fB : ∀ x, B = some x → F x.block) (fK : ∀ b, (Value.slice K n kc).ownBlock = some b → F b) (fX : ∀ b, s ≤ b → Xp b → F b) :
    PtC w F (c7 k t A lo.length ca B hi.length cb K kids.length kc mn mx) (.mk k t lo hi kids mn mx) := by
  obtain ⟨css, hr, hk⟩ := hK
  by_cases h0 : kids = []
  · subst h0
    exact .mk k t lo hi [] mn mx A B K ca cb kc 0 0 (fun _ => []) hA hB (fun _ => fA) (fun _ => fB) (fun e => (e rfl).elim) (fun i hi => absurd hi (by simp)) (fun i hi => absurd hi (by simp)) (fun i hi => absurd hi (by simp))
  · obtain ⟨g, cap, eK, hge, _⟩ := own_some hr (List.length_pos_iff.2 h0)
    injection eK with e1 e2 e3
    subst e1 e2 e3
    have hl := hr.1
    refine .mk k t lo hi kids mn mx A B _ ca cb kc g 0 (sev css) hA hB (fun _ => fA) (fun _ => fB) (fun _ => ⟨rfl, fK g rfl⟩) (fun i hi => sev_len (by rw [hl]; omega)) (fun i hi j u hu => ?_) fun i hi => (hk i hi).mono fun b hb _ => fX b hb.1 hb.2.2
    have hj : j < 7 := by
      have := (List.getElem?_eq_some_iff.1 hu).1
      rw [sev_len (by rw [hl]; omega)] at this
      exact this
    rw [sev_get hj] at hu
    rw [Nat.zero_add]
    exact own_cellN hr _ u hu
/-- The part becomes the one kid of a repetition. -/
theorem PX.wrap {w0 w W : World} {B0 B g N X k : Nat} {F : Nat → Prop} {rs : List Ru} {a : Option Addr} {c : Nat} {kk : Int} {t : ByteArray} {lo hi : List Int} {kids : List Pt} {mn mx : Int} {A C K : Option Addr} {ca cc kc base : Nat} (hS : SS w0 B0 B g N X k F rs a c (c7 kk t A lo.length ca C hi.length cc K kids.length kc mn mx) base w)
    (hP : PX base w0 w X (.slice a rs.length c) (c7 kk t A lo.length ca C hi.length cc K kids.length kc mn mx) (.mk kk t lo hi kids mn mx))
    (hW : W = (((((((w.setCell ⟨X, 0, none⟩ (.int .i64 6)).setCell ⟨X, 1, none⟩ (.string ⟨#[]⟩)).setCell ⟨X, 2, none⟩ (.slice none 0 0)).setCell ⟨X, 3, none⟩ (.slice none 0 0)).setCell ⟨X, 4, none⟩ (.slice (some ⟨w.heap.size, 0, none⟩) 1 1)).setCell ⟨X, 5, none⟩ (.int .i64 0)).setCell ⟨X, 6, none⟩ (.int .i64 (-1))).alloc
      (.cells (c7 kk t A lo.length ca C hi.length cc K kids.length kc mn mx).toArray 31)) :
    SS w0 B0 B g N X k F rs a c (c7 6 ⟨#[]⟩ none 0 0 none 0 0 (some ⟨w.heap.size, 0, none⟩) 1 1 0 (-1)) base W ∧ PX base w0 W X (.slice a rs.length c) (c7 6 ⟨#[]⟩ none 0 0 none 0 0 (some ⟨w.heap.size, 0, none⟩) 1 1 0 (-1)) (.mk 6 ⟨#[]⟩ [] [] [.mk kk t lo hi kids mn mx] 0 (-1)) := by
  have hx := hS.xlt
  obtain ⟨Fp, h1, h2, h3⟩ := hP
  have hSS := (((((((hS.setX 0 (.int .i64 6)).setX 1 (.string ⟨#[]⟩)).setX 2 (.slice none 0 0)).setX 3 (.slice none 0 0)).setX 4 (.slice (some ⟨w.heap.size, 0, none⟩) 1 1)).setX 5 (.int .i64 0)).setX 6 (.int .i64 (-1)))
  have oth := fun q hq => seven_other (R := X) (w := w) (.int .i64 6) (.string ⟨#[]⟩) (.slice none 0 0) (.slice none 0 0) (.slice (some ⟨w.heap.size, 0, none⟩) 1 1) (.int .i64 0) (.int .i64 (-1)) q hq
  have hsz : (((((((w.setCell ⟨X, 0, none⟩ (.int .i64 6)).setCell ⟨X, 1, none⟩ (.string ⟨#[]⟩)).setCell ⟨X, 2, none⟩ (.slice none 0 0)).setCell ⟨X, 3, none⟩ (.slice none 0 0)).setCell ⟨X, 4, none⟩ (.slice (some ⟨w.heap.size, 0, none⟩) 1 1)).setCell ⟨X, 5, none⟩ (.int .i64 0)).setCell ⟨X, 6, none⟩ (.int .i64 (-1))).heap.size = w.heap.size := by simp only [World.size_setCell]
  generalize (((((((w.setCell ⟨X, 0, none⟩ (.int .i64 6)).setCell ⟨X, 1, none⟩ (.string ⟨#[]⟩)).setCell ⟨X, 2, none⟩ (.slice none 0 0)).setCell ⟨X, 3, none⟩ (.slice none 0 0)).setCell ⟨X, 4, none⟩ (.slice (some ⟨w.heap.size, 0, none⟩) 1 1)).setCell ⟨X, 5, none⟩ (.int .i64 0)).setCell ⟨X, 6, none⟩ (.int .i64 (-1))) = V at *
  subst hW
  have hrow := own_new V 31 7 w.heap.size 1 (c7 kk t A lo.length ca C hi.length cc K kids.length kc mn mx) (by omega) rfl (by simp [maxLen])
  rw [hsz] at hrow
  obtain ⟨xs, hxs, _⟩ := hS.row
  refine ⟨hSS.alloc _, fun b => Fp b ∨ b = w.heap.size, ?_, .mk 6 ⟨#[]⟩ [] [] _ 0 (-1) (by decide) (by simp) (by simp) (by simp) fun p hp => by rw [List.mem_singleton] at hp; subst hp; exact h2, fun b hb => ?_⟩
  · refine .mk 6 ⟨#[]⟩ [] [] [.mk kk t lo hi kids mn mx] 0 (-1) none none (some ⟨w.heap.size, 0, none⟩) 0 0 1 w.heap.size 0 (fun _ => c7 kk t A lo.length ca C hi.length cc K kids.length kc mn mx) (.inl rfl) (.inl rfl) (fun e => (e rfl).elim) (fun e => (e rfl).elim) (fun _ => ⟨rfl, .inr rfl⟩) (fun i _ => rfl) (fun i hi j u hu => ?_) fun i hi => ?_
    · have e : i = 0 := by simpa using hi
      subst e
      have := own_cellN hrow j u hu
      simpa using this
    · have e : i = 0 := by simpa using hi
      subst e
      exact h1.mv' fun b hb hl => ⟨(Below.heap_alloc V _ b (by omega)).trans (oth b (h3 b hb).2.2.2.1), .inl hb⟩
  · rcases hb with hb | hb
    · exact h3 b hb
    · subst hb
      exact ⟨fun e => by have := (hxs.lt _ e).2; omega, by omega, by omega, by omega, by have := hS.ord; omega⟩

theorem own_zero (w : World) (e : TypeId) (size base : Nat) (hb : base ≤ w.heap.size) : (w.alloc (.cells #[] e)).ownsRow base e size (.slice (some ⟨w.heap.size, 0, none⟩) 0 0) 0 [] :=
  ⟨by simp, .inr ⟨w.heap.size, 0, #[], rfl, hb, Own.new w e #[], Nat.le_refl _, by simp [maxLen], by simp, by simp⟩⟩
/-- A part of many kids. -/
theorem PX.many {w0 w W : World} {B0 B g N X k : Nat} {F : Nat → Prop} {rs : List Ru} {R c : Nat} {cs : List Value} {base kc : Nat} {K : Option Addr} {kids : List Pt} (hS : SS w0 B0 B g N X k F rs (some ⟨R, 0, none⟩) c cs base w) (hcs : cs.length = 7) (hRw : R < w0.heap.size) (hK : KR w (X + 1) (fun _ => True) (.slice K kids.length kc) kids) (hl : ∀ p ∈ kids, Lim 5000 p) (hlen : kids.length ≤ 5000) (k' : Int)
    (hW : W = (((((((w.setCell ⟨X, 0, none⟩ (.int .i64 k')).setCell ⟨X, 1, none⟩ (.string ⟨#[]⟩)).setCell ⟨X, 2, none⟩ (.slice none 0 0)).setCell ⟨X, 3, none⟩ (.slice none 0 0)).setCell ⟨X, 4, none⟩ (.slice K kids.length kc)).setCell ⟨X, 5, none⟩ (.int .i64 0)).setCell ⟨X, 6, none⟩ (.int .i64 0))) :
    SS w0 B0 B g N X k F rs (some ⟨R, 0, none⟩) c (c7 k' ⟨#[]⟩ none 0 0 none 0 0 K kids.length kc 0 0) base W ∧ PX base w0 W X (.slice (some ⟨R, 0, none⟩) rs.length c) (c7 k' ⟨#[]⟩ none 0 0 none 0 0 K kids.length kc 0 0) (.mk k' ⟨#[]⟩ [] [] kids 0 0) := by
  have hx := hS.xlt
  have hSS := (((((((hS.setX 0 (.int .i64 k')).setX 1 (.string ⟨#[]⟩)).setX 2 (.slice none 0 0)).setX 3 (.slice none 0 0)).setX 4 (.slice K kids.length kc)).setX 5 (.int .i64 0)).setX 6 (.int .i64 0))
  have oth := fun q hq => seven_other (R := X) (w := w) (.int .i64 k') (.string ⟨#[]⟩) (.slice none 0 0) (.slice none 0 0) (.slice K kids.length kc) (.int .i64 0) (.int .i64 0) q hq
  subst hW
  match cs, hcs with
  | [y0, y1, y2, y3, y4, y5, y6], _ =>
  refine ⟨hSS, fun b => X + 1 ≤ b, PtC.ofRows (lo := []) (hi := []) k' ⟨#[]⟩ 0 0 (.inl rfl) (.inl rfl) (hK.keep fun b hb _ => oth b (by omega)) (fun x h => by cases h) (fun x h => by cases h) (fun b hb => (hK.lt b hb).1) (fun b hb _ => hb), .mk k' ⟨#[]⟩ [] [] kids 0 0 (by decide) (by simp) (by simp) hlen hl, fun b hb => ⟨fun e => ?_, by omega, by omega, by omega, by have := hS.ord; omega⟩⟩
  have : R = b := by simpa [Value.ownBlock] using e
  omega

/-- A part whose two rows of numbers may grow. -/
structure Q4 (w : World) (base s e X : Nat) (lo hi : List Int) (kids : List Pt) (A C K : Option Addr) (ca cc kc : Nat) : Prop where
  a : w.ownsRow base 3 1 (.slice A lo.length ca) lo.length (ints lo)
  b : w.ownsRow base 3 1 (.slice C hi.length cc) hi.length (ints hi)
  ab : ∀ q, (Value.slice A lo.length ca).ownBlock = some q → (Value.slice C hi.length cc).ownBlock ≠ some q
  ks : KR w base (fun b => s ≤ b ∧ b < e ∧ (Value.slice A lo.length ca).ownBlock ≠ some b ∧ (Value.slice C hi.length cc).ownBlock ≠ some b) (.slice K kids.length kc) kids
  ia : ∀ b, (Value.slice A lo.length ca).ownBlock = some b → (s ≤ b ∧ b < e) ∨ X + 1 ≤ b
  ib : ∀ b, (Value.slice C hi.length cc).ownBlock = some b → (s ≤ b ∧ b < e) ∨ X + 1 ≤ b
  ik : ∀ b, (Value.slice K kids.length kc).ownBlock = some b → s ≤ b ∧ b < e
section
variable {w w' : World} {base s e X : Nat} {lo hi : List Int} {kids : List Pt} {A C K : Option Addr} {ca cc kc : Nat}
theorem Q4.ofOPt (h : OPt w s e lo hi kids A C K ca cc kc) (hb : base ≤ s) : Q4 w base s e X lo hi kids A C K ca cc kc := by
  obtain ⟨css, hr, hk⟩ := h.ks
  exact ⟨own_base h.a hb, own_base h.b hb, h.ab, ⟨css, own_base hr hb, fun i hi => (hk i hi).mono fun b hb' _ => ⟨by omega, hb'.2.1, hb'.1, hb'.2.2⟩⟩, fun b hb' => .inl ⟨(h.a.lt b hb').1, h.ea b hb'⟩, fun b hb' => .inl ⟨(h.b.lt b hb').1, h.eb b hb'⟩, fun b hb' => ⟨(hr.lt b hb').1, h.ek b hb'⟩⟩
theorem Q4.same (h : Q4 w base s e X lo hi kids A C K ca cc kc) (he : e ≤ X) (hb : ∀ b, base ≤ b → b ≠ X → b < w.heap.size → w'.heap[b]? = w.heap[b]?) : Q4 w' base s e X lo hi kids A C K ca cc kc :=
  ⟨own_same h.a fun b hk => hb b (h.a.lt b hk).1 (by have := h.ia b hk; omega) (h.a.lt b hk).2, own_same h.b fun b hk => hb b (h.b.lt b hk).1 (by have := h.ib b hk; omega) (h.b.lt b hk).2, h.ab,
    h.ks.keepX fun b h1 h2 h3 => hb b h1 (by rcases h3 with h3 | h3; exact (by have := h.ik b h3; omega); exact (by have := h3.2.1; omega)) h2, h.ia, h.ib, h.ik⟩
theorem own_ints_app {lo : List Int} {v' : Value} {x : Int} (ho : w'.ownsRow base 3 1 v' (lo.length + 1) (ints lo ++ [.int .i64 x])) {g cap : Nat} (e : v' = .slice (some ⟨g, 0, none⟩) (lo.length + 1) cap) : w'.ownsRow base 3 1 (.slice (some ⟨g, 0, none⟩) (lo ++ [x]).length cap) (lo ++ [x]).length (ints (lo ++ [x])) := by
  subst e
  rw [ints_one] at ho
  have : (lo ++ [x]).length = lo.length + 1 := by simp
  rw [this]
  exact ho
theorem Q4.low {g3 cap3 : Nat} {x : Int} (h : Q4 w base s e X lo hi kids A C K ca cc kc) (hX : X < w.heap.size) (he : e ≤ X) (ho : w'.ownsRow base 3 1 (.slice (some ⟨g3, 0, none⟩) (lo.length + 1) cap3) (lo.length + 1) (ints lo ++ [.int .i64 x])) (hg : w.grownBy w' (Value.slice A lo.length ca).ownBlock) (hat : (Value.slice A lo.length ca).ownBlock = some g3 ∨ g3 = w.heap.size) :
    Q4 w' base s e X (lo ++ [x]) hi kids (some ⟨g3, 0, none⟩) C K cap3 cc kc := by
  have hb3 : ∀ b, (Value.slice (some ⟨g3, 0, none⟩) (lo ++ [x]).length cap3).ownBlock = some b → (Value.slice A lo.length ca).ownBlock = some b ∨ b = w.heap.size := fun b hb => by
    have e : g3 = b := by simpa [Value.ownBlock] using hb
    subst e; exact hat
  refine ⟨own_ints_app ho rfl, own_same h.b fun b hb => hg.block b (h.b.lt b hb).2 fun e => h.ab b e.symm hb, fun q hq hq' => ?_, ?_, fun b hb => ?_, h.ib, h.ik⟩
  · rcases hb3 q hq with e | e
    · exact h.ab q e hq'
    · have := (h.b.lt q hq').2; omega
  · obtain ⟨css, hr, hk⟩ := h.ks
    refine ⟨css, own_same hr fun b hb => hg.block b (hr.lt b hb).2 fun e => own_apart h.a hr (by decide) e.symm hb, fun i hi => (hk i hi).mv' fun b hb hl => ⟨hg.block b hl fun e => hb.2.2.2.2.1 e.symm, hb.1, hb.2.1, hb.2.2.1, hb.2.2.2.1, fun e => ?_, hb.2.2.2.2.2⟩⟩
    rcases hb3 b e with e | e
    · exact hb.2.2.2.2.1 e
    · omega
  · rcases hb3 b hb with e | e
    · exact h.ia b e
    · exact .inr (by omega)
theorem Q4.high {g3 cap3 : Nat} {x : Int} (h : Q4 w base s e X lo hi kids A C K ca cc kc) (hX : X < w.heap.size) (he : e ≤ X) (ho : w'.ownsRow base 3 1 (.slice (some ⟨g3, 0, none⟩) (hi.length + 1) cap3) (hi.length + 1) (ints hi ++ [.int .i64 x])) (hg : w.grownBy w' (Value.slice C hi.length cc).ownBlock) (hat : (Value.slice C hi.length cc).ownBlock = some g3 ∨ g3 = w.heap.size) :
    Q4 w' base s e X lo (hi ++ [x]) kids A (some ⟨g3, 0, none⟩) K ca cap3 kc := by
  have hb3 : ∀ b, (Value.slice (some ⟨g3, 0, none⟩) (hi ++ [x]).length cap3).ownBlock = some b → (Value.slice C hi.length cc).ownBlock = some b ∨ b = w.heap.size := fun b hb => by
    have e : g3 = b := by simpa [Value.ownBlock] using hb
    subst e; exact hat
  refine ⟨own_same h.a fun b hb => hg.block b (h.a.lt b hb).2 fun e => h.ab b hb e.symm, own_ints_app ho rfl, fun q hq hq' => ?_, ?_, h.ia, fun b hb => ?_, h.ik⟩
  · rcases hb3 q hq' with e | e
    · exact h.ab q hq e
    · have := (h.a.lt q hq).2; omega
  · obtain ⟨css, hr, hk⟩ := h.ks
    refine ⟨css, own_same hr fun b hb => hg.block b (hr.lt b hb).2 fun e => own_apart h.b hr (by decide) e.symm hb, fun i hi => (hk i hi).mv' fun b hb hl => ⟨hg.block b hl fun e => hb.2.2.2.2.2 e.symm, hb.1, hb.2.1, hb.2.2.1, hb.2.2.2.1, hb.2.2.2.2.1, fun e => ?_⟩⟩
    rcases hb3 b e with e | e
    · exact hb.2.2.2.2.2 e
    · omega
  · rcases hb3 b hb with e | e
    · exact h.ib b e
    · exact .inr (by omega)
theorem Q4.px {w0 : World} {Rb n c T : Nat} (h : Q4 w base s e X lo hi kids A C K ca cc kc) (hL : base ≤ s) (hL2 : base ≤ X) (he : e ≤ T) (hR : Rb < s ∨ e ≤ Rb) (hRT : Rb < T) (hT : T ≤ w0.heap.size) (hX : w0.heap.size + 2 ≤ X) (kk : Int) (t : ByteArray) (mn mx : Int) (hl : Lim 5000 (.mk kk t lo hi kids mn mx)) :
    PX base w0 w X (.slice (some ⟨Rb, 0, none⟩) n c) (c7 kk t A lo.length ca C hi.length cc K kids.length kc mn mx) (.mk kk t lo hi kids mn mx) := by
  refine ⟨fun b => (s ≤ b ∧ b < e) ∨ X + 1 ≤ b, PtC.ofRows kk t mn mx (own_rowN h.a) (own_rowN h.b) h.ks (fun x hx => ?_) (fun x hx => ?_) (fun b hb => .inl (h.ik b hb)) (fun b _ h2 => .inl ⟨h2.1, h2.2.1⟩), hl, fun b hb => ⟨fun e => ?_, by omega, by omega, by omega, by omega⟩⟩
  · subst hx; exact h.ia _ rfl
  · subst hx; exact h.ib _ rfl
  · have : Rb = b := by simpa [Value.ownBlock] using e
    omega
end
/-- A rule is put behind the others. -/
theorem SS.push {w0 W w5 : World} {B0 B g N X k : Nat} {F : Nat → Prop} {rs : List Ru} {a : Option Addr} {c : Nat} {cs : List Value} {base g3 cap3 : Nat} {xs : List Value} {nm : ByteArray} (h : SS w0 B0 B g N X k F rs a c cs base W) (h1 : W.ownsRow base 33 8 (.slice a rs.length c) rs.length xs)
    (h2 : ∀ i (h : i < rs.length), ∃ ci, eig xs i = .string rs[i].name :: ci ∧ ci.length = 7 ∧ (i ≠ k → PtC W F ci rs[i].p)) (hnm : nm.size ≤ 5000)
    (ho : w5.ownsRow base 33 8 (.slice (some ⟨g3, 0, none⟩) (rs.length + 1) cap3) (rs.length + 1) (xs ++ (.string nm :: c7 4 ⟨#[]⟩ none 0 0 none 0 0 none 0 0 0 0))) (hg : W.grownBy w5 (Value.slice a rs.length c).ownBlock) (hat : (Value.slice a rs.length c).ownBlock = some g3 ∨ g3 = W.heap.size) :
    (w5.cell? ⟨w0.heap.size, 0, none⟩ = some (.slice a rs.length c) ∧ w5.frozen? ⟨w0.heap.size, 0, none⟩ = false) ∧
      SS w0 B0 B g N X k F (rs ++ [⟨nm, .mk 4 ⟨#[]⟩ [] [] [] 0 0⟩]) (some ⟨g3, 0, none⟩) cap3 cs base (w5.setCell ⟨w0.heap.size, 0, none⟩ (.slice (some ⟨g3, 0, none⟩) (rs.length + 1) cap3)) := by
  have hord := h.ord
  have hx := h.x.lt
  have hl := h1.1
  have hlen : (rs ++ [(⟨nm, .mk 4 ⟨#[]⟩ [] [] [] 0 0⟩ : Ru)]).length = rs.length + 1 := by simp
  have ne : ∀ q, ((Value.slice a rs.length c).ownBlock = some q → False) → q < W.heap.size → w5.heap[q]? = W.heap[q]? := fun q hq hl => hg.block q hl fun e => hq e.symm
  have hG : Own w5 w0.heap.size 25 [.slice a rs.length c] := (ne _ (fun e => own_ne_own h1 h.gv (by decide) _ e rfl) h.gv.lt).trans h.gv
  have hR : Own w5 (w0.heap.size + 1) 25 [.slice none 0 0] := (ne _ (fun e => own_ne_own h1 h.r (by decide) _ e rfl) h.r.lt).trans h.r
  have hX : Own w5 X 31 cs := (ne _ (fun e => own_ne_own h1 h.x (by decide) _ e rfl) h.x.lt).trans h.x
  have hb3 : ∀ b, (Value.slice (some ⟨g3, 0, none⟩) (rs.length + 1) cap3).ownBlock = some b → (Value.slice a rs.length c).ownBlock = some b ∨ b = W.heap.size := fun b hb => by
    have e : g3 = b := by simpa [Value.ownBlock] using hb
    subst e
    exact hat
  have hgb : ∀ q, (Value.slice a rs.length c).ownBlock = some q → base ≤ q := fun q hq => (h1.lt q hq).1
  have hF3 : ∀ b, F b → base ≤ b ∧ b < w0.heap.size ∧ (Value.slice (some ⟨g3, 0, none⟩) (rs.length + 1) cap3).ownBlock ≠ some b := fun b hb => by
    have := h.hF b hb
    exact ⟨this.1, this.2.1, fun e => (hb3 b e).elim this.2.2 (by omega)⟩
  have hrow : (w5.setCell ⟨w0.heap.size, 0, none⟩ (.slice (some ⟨g3, 0, none⟩) (rs.length + 1) cap3)).ownsRow base 33 8 (.slice (some ⟨g3, 0, none⟩) (rs.length + 1) cap3) (rs.length + 1) (xs ++ (.string nm :: c7 4 ⟨#[]⟩ none 0 0 none 0 0 none 0 0 0 0)) :=
    own_far ho (fun b hb => own_ne_own ho hG (by decide) b hb) _
  refine ⟨⟨by rw [hG.cell]; rfl, hG.frozen 0⟩, by rw [hlen]; simpa using hG.set_ 0 (.slice (some ⟨g3, 0, none⟩) (rs.length + 1) cap3), hR.far (by simp) _, ⟨_, by rw [hlen]; exact hrow, fun i hi => ?_⟩, hX.far (by simp only; omega) _,
    (h.rd.grown (by omega) hg (fun q hq => by have := hgb q hq; omega)).setCell (by simp only; omega) _, (h.fr.grown hg (by omega) (fun q hq => by have := hgb q hq; omega)).setCell (by simp only; omega) _, by rw [hlen]; have := h.hk; omega, fun i hi => ?_, by rw [hlen]; exact hF3, hord⟩
  · by_cases hlt : i < rs.length
    · obtain ⟨ci, q1, q2, q3⟩ := h2 i hlt
      refine ⟨ci, ?_, q2, fun hne => ?_⟩
      · rw [eig_app_left (by rw [hl]; omega), List.getElem_append_left hlt]; exact q1
      · rw [List.getElem_append_left hlt]
        exact (q3 hne).mv fun b hb hl' => (Below.heap_setCell _ _ _ b (by have := (h.hF b hb).2.1; show b ≠ w0.heap.size; omega)).trans (ne b (h.hF b hb).2.2 hl')
    · have e : i = rs.length := by rw [hlen] at hi; omega
      subst e
      refine ⟨c7 4 ⟨#[]⟩ none 0 0 none 0 0 none 0 0 0 0, ?_, rfl, fun _ => ?_⟩
      · rw [eig_app_right hl rfl, List.getElem_append_right (by omega)]; simp
      · rw [List.getElem_append_right (by omega)]
        simpa using ptC_text _ F 4 ⟨#[]⟩
  · by_cases hlt : i < rs.length
    · rw [List.getElem_append_left hlt]; exact h.lim i hlt
    · have e : i = rs.length := by rw [hlen] at hi; omega
      subst e
      rw [List.getElem_append_right (by omega)]
      simp only [Nat.sub_self, List.getElem_cons_zero]
      exact ⟨hnm, fun _ => (lim_bare 4 ⟨#[]⟩ 0 0 (by decide)).up (by omega)⟩
/-- .. and the part that is to be spoilt stays. -/
theorem PX.push {w0 W w5 : World} {B0 B g N X k : Nat} {F : Nat → Prop} {rs : List Ru} {a : Option Addr} {c n' : Nat} {cs : List Value} {base g3 cap3 : Nat} {p : Pt} (h : SS w0 B0 B g N X k F rs a c cs base W) (hp : PX base w0 W X (.slice a rs.length c) cs p) (hg : W.grownBy w5 (Value.slice a rs.length c).ownBlock) (hat : (Value.slice a rs.length c).ownBlock = some g3 ∨ g3 = W.heap.size) (u : Value) :
    PX base w0 (w5.setCell ⟨w0.heap.size, 0, none⟩ u) X (.slice (some ⟨g3, 0, none⟩) n' cap3) cs p := by
  obtain ⟨Fp, h1, h2, h3⟩ := hp
  refine ⟨fun b => Fp b ∧ b < W.heap.size, (h1.mono fun b hb hl => ⟨hb, hl⟩).mv fun b hb hl => (Below.heap_setCell _ _ _ b (h3 b hb.1).2.1).trans (hg.block b hl fun e => (h3 b hb.1).1 e.symm), h2, fun b hb => ⟨fun e => ?_, (h3 b hb.1).2⟩⟩
  have e : g3 = b := by simpa [Value.ownBlock] using e
  subst e
  rcases hat with q | q
  · exact (h3 g3 hb.1).1 q
  · omega

/-- The rule's own part, with other numbers or another text. -/
theorem PX.ofOPt {w0 w : World} {base X Rb n c s e T : Nat} {lo hi : List Int} {kids : List Pt} {A C K : Option Addr} {ca cc kc : Nat} (h : OPt w s e lo hi kids A C K ca cc kc) (hL : base ≤ s) (he : e ≤ T) (hR : Rb < s ∨ e ≤ Rb) (hT : T ≤ w0.heap.size) (hX : w0.heap.size + 2 ≤ X) (kk : Int) (t : ByteArray) (mn mx : Int) {p : Pt} (hp : Lim 1000 p) (hpp : ∃ kk' t' mn' mx', p = .mk kk' t' lo hi kids mn' mx') (ht : t.size ≤ 5000) :
    PX base w0 w X (.slice (some ⟨Rb, 0, none⟩) n c) (c7 kk t A lo.length ca C hi.length cc K kids.length kc mn mx) (.mk kk t lo hi kids mn mx) := by
  refine ⟨_, h.ptC kk t mn mx, ?_, fun b hb => ⟨fun e => ?_, by omega, by omega, by omega, by omega⟩⟩
  · obtain ⟨kk', t', mn', mx', rfl⟩ := hpp
    cases hp with
    | mk _ _ _ _ _ _ _ h1 h2 h3 h4 h5 => exact .mk kk t lo hi kids mn mx ht (by omega) (by omega) (by omega) fun q hq => (h5 q hq).up (by omega)
  · have : Rb = b := by simpa [Value.ownBlock] using e
    omega

set_option maxRecDepth 100000 in
set_option maxHeartbeats 4000000 in
theorem spoil_any (B0 B g N base T : Nat) (rs : List Ru) (a : Option Addr) (c : Nat) (w : World) (hrd : Rd w B g N) (hN : N ≤ 40000) (hgr : GR w base T (.slice a rs.length c) rs) (h1 : 1 ≤ rs.length) (h4 : rs.length ≤ 4) (hl : LimR 1000 rs) (ho : B0 ≤ g ∧ B0 ≤ base ∧ B ≤ base ∧ base ≤ w.heap.size) :
    Calls Tryd.prog 15 #[.pointer (some ⟨g, 0, none⟩), .agg #[.slice a rs.length c]] w (SpoilPost w B0) := by
  go_enter Tryd.func15, Tryd.ntmps15
  go_wp2_with fail
  refine (pick_any B g N rs.length _ ((hrd.alloc (by omega) _).alloc (by simp; omega) _) (by omega) (by omega) (by omega)).mono ?_
  rintro e w1 ⟨v, rfl, hv0, hv1, hrd1, hg1⟩
  obtain ⟨k, hk⟩ : ∃ k : Nat, v = (k : Int) := ⟨v.toNat, by omega⟩
  subst hk
  have hkn : k < rs.length := by omega
  have hki : (k : Int) < (rs.length : Int) := by omega
  have hgB := hrd.ltB
  have hs1 := hg1.size
  simp only [World.size_alloc] at hs1
  have hfr1 : Below B0 w w1 := (((Below.refl B0 w).alloc (by omega) _).alloc (by simp; omega) _).grown hg1 (by simp; omega) (fun k hk => by injection hk with hk; omega)
  have hgv : Own w1 w.heap.size 25 [.slice a rs.length c] := own_touch ((Own.new w 25 #[.slice a rs.length c]).alloc _) hg1 (by omega)
  have hr1 : Own w1 (w.heap.size + 1) 25 [.slice none 0 0] := own_touch (by simpa using Own.new (w.alloc (.cells #[.slice a rs.length c] 25)) 25 #[.slice none 0 0]) hg1 (by omega)
  obtain ⟨xs, F, s, e, Rb, kk, t, lo, hi, kids, mn, mx, A, C, K, ca, cc, kc, HG⟩ := hgr.pick hkn
  have HG1 := HG.keep (w' := w1) (by omega) fun b hb hl => (hg1.block b (by simp; omega) (fun e => by injection e with e; omega)).trans ((Below.heap_alloc (w.alloc (.cells #[.slice a rs.length c] 25)) _ b (by simp; omega)).trans (Below.heap_alloc w _ b hl))
  have hTw := hgr.top
  obtain ⟨HS, HO, HLM⟩ := HG1.ss hgv hr1 hrd1 hfr1 hTw hl ho (by omega)
  have g0 : w1.cell? ⟨w.heap.size, 0, none⟩ = some (.slice a rs.length c) := by rw [hgv.cell]; rfl
  have hak := HG1.ha
  subst hak
  have p0 := HG1.kcel 0 _ rfl
  have p1 := HG1.kcel 1 _ rfl
  have p2 := HG1.kcel 2 _ rfl
  have p3 := HG1.kcel 3 _ rfl
  have p4 := HG1.kcel 4 _ rfl
  have p5 := HG1.kcel 5 _ rfl
  have p6 := HG1.kcel 6 _ rfl
  simp only [Nat.add_zero] at p0
  have HORD : Hid (base ≤ s ∧ e ≤ T ∧ (Rb < s ∨ e ≤ Rb) ∧ base ≤ Rb ∧ Rb < T ∧ T ≤ w.heap.size ∧ ∀ b, F b → b < T ∧ ¬ (s ≤ b ∧ b < e)) := by
    have h := HG1.hs
    have h2 := HG1.hF
    exact ⟨h.1, h.2.1, h.2.2.1, h.2.2.2.1, h.2.2.2.2.1, hTw, fun b hb => ⟨(h2 b hb).2.1, (h2 b hb).2.2.2⟩⟩
  have HO1 := Lib.hid HO
  have HS1 := Lib.hid HS
  have HLM1 := Lib.hid HLM
  have ho1 := ho
  clear hgr hl hrd hgv hr1 hrd1 hg1 hfr1 HG HG1 HO HLM hTw HS hv0 hv1
  go_upto_region 3 with fail
  clear g0 p0 p1 p2 p3 p4 p5 p6
  have HX1 : Hid (w1.heap.size < (w1.alloc (.cells (c7 kk t A lo.length ca C hi.length cc K kids.length kc mn mx).toArray 31)).heap.size ∧ w.heap.size + 2 ≤ w1.heap.size) := ⟨by rw [World.size_alloc]; omega, by omega⟩
  simp only [c7] at HS1 HO1 HX1
  generalize w1.alloc (.cells #[.int .i64 kk, .string t, .slice A lo.length ca, .slice C hi.length cc, .slice K kids.length kc, .int .i64 mn, .int .i64 mx] 31) = W1 at *
  generalize w1.heap.size = X at *
  go_wp2_with fail
  refine (pick_any B g _ 9 _ HS1.out.rd (by omega) (by omega) (by omega)).mono ?_
  rintro e2 w2 ⟨z, rfl, hz0, hz1, hrd2, hg2⟩
  have HS2 := Lib.hid (HS1.out.touch hg2 hrd2)
  have HO2 : Hid (OPt w2 s e lo hi kids A C K ca cc kc) := HO1.out.keep fun b h1 _ hl => hg2.block b hl (fun q => by injection q with q; have := HS1.out.rd.ltB; have := HORD.out; omega)
  have hz : z = 0 ∨ z = 1 ∨ z = 2 ∨ z = 3 ∨ z = 4 ∨ z = 5 ∨ z = 6 ∨ z = 7 ∨ z = 8 := by omega
  clear hrd2 hg2 HS1 HO1 hz0 hz1
  go_upto_block 0 with fail
  go_cut [] (fun wx => ∃ (rs : List Ru) (a : Option Addr) (c : Nat) (cs : List Value) (p : Pt), SS w B0 B g 50000 X k F rs a c cs base wx ∧ PX base w wx X (.slice a rs.length c) cs p ∧ rs.length ≤ 100)
  case first =>
    have hgB' := HS2.out.rd.ltB
    have hT := HORD.out
    have hx := HX1.out
    have hLg : ∃ kk' t' mn' mx', Pt.mk kk t lo hi kids mn mx = .mk kk' t' lo hi kids mn' mx' := ⟨kk, t, mn, mx, rfl⟩
    have HLG := Lib.hid hLg
    have ht5 : t.size ≤ 5000 := by have := HLM1.out; cases this with | mk _ _ _ _ _ _ _ h => omega
    clear hLg
    rcases hz with rfl | rfl | rfl | rfl | rfl | rfl | rfl | rfl | rfl
    · have hk3 := HS2.out.hk
      have g0 : w2.cell? ⟨w.heap.size, 0, none⟩ = some (.slice (some ⟨Rb, 0, none⟩) rs.length c) := by rw [HS2.out.gv.cell]; rfl
      have hgl : w.heap.size < w2.heap.size := HS2.out.gv.lt
      have ob := Own.new w2.drew 9 #[.string ⟨#[]⟩, .string ⟨#[83]⟩, .string ⟨#[116, 111, 111, 108, 111, 110, 103, 110, 97, 109, 101]⟩, .string ⟨#[115]⟩, .string ⟨#[120]⟩]
      have HSA := Lib.hid (HS2.out.drew.alloc (.cells #[.string ⟨#[]⟩, .string ⟨#[83]⟩, .string ⟨#[116, 111, 111, 108, 111, 110, 103, 110, 97, 109, 101]⟩, .string ⟨#[115]⟩, .string ⟨#[120]⟩] 9))
      have HOB := Lib.hid ob
      have HOA : Hid (OPt (w2.drew.alloc (.cells #[.string ⟨#[]⟩, .string ⟨#[83]⟩, .string ⟨#[116, 111, 111, 108, 111, 110, 103, 110, 97, 109, 101]⟩, .string ⟨#[115]⟩, .string ⟨#[120]⟩] 9)) s e lo hi kids A C K ca cc kc) := HO2.out.keep fun b _ _ hl => Below.heap_alloc w2.drew _ b hl
      have hgw : g < w2.heap.size := HS2.out.rd.lt
      clear ob
      go_wp2_with fail
      go_region_law (go_simp; go_at_call 29; refine (of_any B g (N + 2) w2.heap.size 0 5 [⟨#[]⟩, ⟨#[83]⟩, ⟨#[116, 111, 111, 108, 111, 110, 103, 110, 97, 109, 101]⟩, ⟨#[115]⟩, ⟨#[120]⟩] _ HSA.out.rd (by omega) (by simp) (by simp) (by omega) (fun i hi => by have hc := HOB.out.cell i; rw [Nat.zero_add]; simp at hi; have : i = 0 ∨ i = 1 ∨ i = 2 ∨ i = 3 ∨ i = 4 := (by omega); rcases this with rfl | rfl | rfl | rfl | rfl <;> exact hc)).mono ?_; rintro e3 w3 ⟨nm, rfl, hnm, hrd3, hg3⟩; have HS3 := Lib.hid (HSA.out.touch hg3 hrd3); have HO3 : Hid (OPt w3 s e lo hi kids A C K ca cc kc) := (HOA.out.keep (w' := w3) fun b h1 _ hl => hg3.block b hl (fun q => by injection q with q; omega)); have hns : nm.size ≤ 5000 := (by simp at hnm; rcases hnm with rfl | rfl | rfl | rfl | rfl <;> decide); have HSN := Lib.hid (HS3.out.setName nm hns hk3); have n0 := HSN.out.2.1; obtain ⟨u0, n1⟩ := HSN.out.2.2; have g3 : w3.cell? ⟨w.heap.size, 0, none⟩ = some (.slice (some ⟨Rb, 0, none⟩) rs.length c) := (by rw [HS3.out.gv.cell]; rfl); clear hnm hrd3 hg3)
      all_goals
        have HO4 : Hid (OPt (w3.setCell ⟨Rb, k * 8, none⟩ (.string nm)) s e lo hi kids A C K ca cc kc) := HO3.out.keep fun b h1 h2 _ => Below.heap_setCell _ _ _ b (by show b ≠ Rb; omega)
        have hle : (rs.set k ⟨nm, rs[k].p⟩).length = rs.length := by simp
        have HLE := Lib.hid hle
        clear hle n0 n1 g3
        go_wp2_with fail
        go_meet
        refine ⟨_, _, c, _, .mk kk t lo hi kids mn mx, HSN.out.1.mono (by omega), ?_, by rw [HLE.out]; omega⟩
        exact PX.ofOPt HO4.out hT.1 hT.2.1 hT.2.2.1 hT.2.2.2.2.2.1 hx.2 kk t mn mx HLM1.out HLG.out ht5
    · go_wp2_with fail
      refine (pick_any B g _ 8 _ HS2.out.rd (by omega) (by omega) (by omega)).mono ?_
      rintro e3 w3 ⟨v, rfl, hv0, hv1, hrd3, hg3⟩
      have HS3 := HS2.out.touch hg3 hrd3
      have HO3 := HO2.out.keep (w' := w3) fun b h1 _ hl => hg3.block b hl (fun q => by injection q with q; omega)
      clear hrd3 hg3 hv0 hv1
      have c0 := (c7_cells HS3.x).1
      have f0 := HS3.x.frozen 0
      have HS4 := HS3.setX 0 (.int .i64 v)
      have HO4 := HO3.keep (w' := w3.setCell ⟨X, 0, none⟩ (.int .i64 v)) fun b _ h2 _ => Below.heap_setCell _ _ _ b (by show b ≠ X; omega)
      go_wp2_with fail
      go_meet
      exact ⟨rs, _, c, _, _, HS4.mono (by omega), PX.ofOPt HO4 hT.1 hT.2.1 hT.2.2.1 hT.2.2.2.2.2.1 hx.2 v t mn mx HLM1.out HLG.out ht5, by omega⟩
    · have hgw : g < w2.heap.size := HS2.out.rd.lt
      go_wp2_with fail
      refine (many_any ⟨#[120]⟩ 20 _ (by omega) (by omega) (by decide)).mono ?_
      rintro e3 w3 ⟨t1, rfl, ht1, rfl⟩
      go_wp2_with fail
      refine (many_any ⟨#[120]⟩ 21 _ (by omega) (by omega) (by decide)).mono ?_
      rintro e3 w3 ⟨t2, rfl, ht2, rfl⟩
      have ht1' : t1.size ≤ 5000 := by rw [ht1]; decide
      have ht2' : t2.size ≤ 5000 := by rw [ht2]; decide
      clear ht1 ht2
      have HSA := HS2.out.alloc (.cells #[.string ⟨#[]⟩, .string ⟨#[110, 111, 98, 111, 100, 121]⟩, .string t1, .string t2] 9)
      have HOB := Lib.hid (Own.new w2 9 #[.string ⟨#[]⟩, .string ⟨#[110, 111, 98, 111, 100, 121]⟩, .string t1, .string t2])
      have HOA := HO2.out.keep (w' := w2.alloc (.cells #[.string ⟨#[]⟩, .string ⟨#[110, 111, 98, 111, 100, 121]⟩, .string t1, .string t2] 9)) fun b _ _ hl => Below.heap_alloc w2 _ b hl
      go_wp2_with fail
      refine (of_any B g (N + 2) w2.heap.size 0 4 [⟨#[]⟩, ⟨#[110, 111, 98, 111, 100, 121]⟩, t1, t2] _ HSA.rd (by omega) (by simp) (by simp) (by omega) (fun i hi => by
        have hc := HOB.out.cell i
        rw [Nat.zero_add]
        simp at hi
        have : i = 0 ∨ i = 1 ∨ i = 2 ∨ i = 3 := by omega
        rcases this with rfl | rfl | rfl | rfl <;> exact hc)).mono ?_
      rintro e3 w3 ⟨nm, rfl, hnm, hrd3, hg3⟩
      have hns : nm.size ≤ 5000 := by
        simp at hnm
        rcases hnm with rfl | rfl | rfl | rfl
        · decide
        · decide
        · exact ht1'
        · exact ht2'
      have HS3 := HSA.touch hg3 hrd3
      have HO3 := HOA.keep (w' := w3) fun b h1 _ hl => hg3.block b hl (fun q => by injection q with q; omega)
      clear hrd3 hg3 hnm HSA HOA
      have c1 := (c7_cells HS3.x).2.1
      have f1 := HS3.x.frozen 1
      have HS4 := HS3.setX 1 (.string nm)
      have HO4 := HO3.keep (w' := w3.setCell ⟨X, 1, none⟩ (.string nm)) fun b _ h2 _ => Below.heap_setCell _ _ _ b (by show b ≠ X; omega)
      go_wp2_with fail
      go_meet
      exact ⟨rs, _, c, _, _, HS4.mono (by omega), PX.ofOPt HO4 hT.1 hT.2.1 hT.2.2.1 hT.2.2.2.2.2.1 hx.2 kk nm mn mx HLM1.out HLG.out hns, by omega⟩
    · go_wp2_with fail
      refine (pick_any B g _ 8 _ HS2.out.rd (by omega) (by omega) (by omega)).mono ?_
      rintro e3 w3 ⟨v, rfl, hv0, hv1, hrd3, hg3⟩
      have HS3 := HS2.out.touch hg3 hrd3
      have HO3 := HO2.out.keep (w' := w3) fun b h1 _ hl => hg3.block b hl (fun q => by injection q with q; omega)
      have hv2 : v ≤ 7 := by rcases hv1 with h | h <;> omega
      clear hrd3 hg3 hv1
      have c0 := (c7_cells HS3.x).2.2.2.2.2.1
      have f0 := HS3.x.frozen 5
      have HS4 := HS3.setX 5 (.int .i64 (v - 1))
      have HO4 := HO3.keep (w' := w3.setCell ⟨X, 5, none⟩ (.int .i64 (v - 1))) fun b _ h2 _ => Below.heap_setCell _ _ _ b (by show b ≠ X; omega)
      go_upto_region 18 with fail
      clear c0 f0 HS3 HO3
      generalize w3.setCell ⟨X, 5, none⟩ (.int .i64 (v - 1)) = W4 at *
      go_wp2_with fail
      refine (pick_any B g _ 9 _ HS4.rd (by omega) (by omega) (by omega)).mono ?_
      rintro e3 w5 ⟨u, rfl, hu0, hu1, hrd3, hg3⟩
      have HS5 := HS4.touch hg3 hrd3
      have HO5 := HO4.keep (w' := w5) fun b h1 _ hl => hg3.block b hl (fun q => by injection q with q; omega)
      have hu2 : u ≤ 8 := by rcases hu1 with h | h <;> omega
      clear hrd3 hg3 hu1
      have c0 : w5.cell? ⟨X, 6, none⟩ = some (.int .i64 mx) := by rw [HS5.x.cell]; rfl
      have f0 := HS5.x.frozen 6
      have HS6 := HS5.setX 6 (.int .i64 (u - 1))
      have HO6 := HO5.keep (w' := w5.setCell ⟨X, 6, none⟩ (.int .i64 (u - 1))) fun b _ h2 _ => Below.heap_setCell _ _ _ b (by show b ≠ X; omega)
      go_wp2_with fail
      go_meet
      exact ⟨rs, _, c, _, _, HS6.mono (by omega), PX.ofOPt HO6 hT.1 hT.2.1 hT.2.2.1 hT.2.2.2.2.2.1 hx.2 kk t (v - 1) (u - 1) HLM1.out HLG.out ht5, by omega⟩
    · obtain ⟨i1, hj0, hy0, hy1, hy2⟩ := info_parts infoY3
      have HJ := Lib.hid (And.intro hj0 (And.intro hy0 (And.intro hy1 hy2)))
      clear hj0 hy0 hy1 hy2
      have hxw := HS2.out.xlt
      have hlh : lo.length ≤ 1000 ∧ hi.length ≤ 1000 := by
        have := HLM1.out
        cases this with | mk _ _ _ _ _ _ _ _ h2 h3 h4 h5 => exact ⟨h2, h3⟩
      have x2 := (c7_cells HS2.out.x).2.2.1
      have hX2 : X < w2.heap.size := hxw.2
      have heX : e ≤ X := by omega
      have HQ2 : Hid (Q4 w2 base s e X lo hi kids A C K ca cc kc) := Q4.ofOPt HO2.out hT.1
      have HGR : Hid (∀ {wq : World} {rs0 : List Ru} {lo hi : List Int} {kids : List Pt} {A C K : Option Addr} {ca cc kc : Nat}, Q4 wq base s e X lo hi kids A C K ca cc kc → (∀ q, (Value.slice A lo.length ca).ownBlock = some q → base ≤ q ∧ ¬ F q ∧ q ≠ w.heap.size ∧ q ≠ w.heap.size + 1 ∧ q ≠ X ∧ (Value.slice (some ⟨Rb, 0, none⟩) rs0.length c).ownBlock ≠ some q) ∧ (∀ q, (Value.slice C hi.length cc).ownBlock = some q → base ≤ q ∧ ¬ F q ∧ q ≠ w.heap.size ∧ q ≠ w.heap.size + 1 ∧ q ≠ X ∧ (Value.slice (some ⟨Rb, 0, none⟩) rs0.length c).ownBlock ≠ some q)) := by
        intro wq rs0 lo hi kids A C K ca cc kc h
        have one : ∀ q, base ≤ q → ((s ≤ q ∧ q < e) ∨ X + 1 ≤ q) → base ≤ q ∧ ¬ F q ∧ q ≠ w.heap.size ∧ q ≠ w.heap.size + 1 ∧ q ≠ X ∧ (Value.slice (some ⟨Rb, 0, none⟩) rs0.length c).ownBlock ≠ some q := fun q h1 h2 => by
          refine ⟨h1, fun hF => ?_, by omega, by omega, by omega, fun e => ?_⟩
          · have := hT.2.2.2.2.2.2 q hF; omega
          · have : Rb = q := by simpa [Value.ownBlock] using e
            omega
        exact ⟨fun q hq => one q (h.a.lt q hq).1 (h.ia q hq), fun q hq => one q (h.b.lt q hq).1 (h.ib q hq)⟩
      clear HO2
      go_wp2_with fail
      go_region_law (first
        | (refine step_append_lies _ rfl _ _ 28 rfl base 3 i1 _ 1 8 Tryd.underlying28 HJ.out.1 HJ.out.2.1 HJ.out.2.2.1 HJ.out.2.2.2 rfl (by decide) _ _ (ints lo) rfl (HQ3.out.a.alloc _) ⟨w3.heap.size, 0, none⟩ 1 1 [.int .i64 (v - 1)] rfl rfl (cell_one_new _ _ _) (by intro u hu; simp at hu; subst hu; rfl) (by omega) (by unfold maxLen; omega) (by omega) (by simp; omega) _ rfl ?_; intro g3 cap3 w5 hown3 hgr3 hat3 hlt3; have HS5 := Lib.hid ((HS3.out.alloc _).grown hgr3 (HGR.out (rs0 := rs) HQ3.out).1); have HQ5 := Lib.hid ((HQ3.out.same heX fun b _ _ hl => Below.heap_alloc w3 _ b hl).low (by simp; omega) heX hown3 hgr3 hat3); have q2 := (c7_cells HS5.out.x).2.2.1; have z2 := HS5.out.x.frozen 2)
        | (go_simp; go_at_call 14; refine (pick_any B g _ 258 _ HS2.out.drew.rd (by omega) (by omega) (by omega)).mono ?_; rintro e3 w3 ⟨v, rfl, hv0, hv1, hrd3, hg3⟩; have HS3 := Lib.hid (HS2.out.drew.touch hg3 hrd3); have HQ3 : Hid (Q4 w3 base s e X lo hi kids A C K ca cc kc) := (HQ2.out.same heX (w' := w3) fun b hb _ hl => hg3.block b hl (fun q => by injection q with q; omega)); have hv2 : v ≤ 257 := (by rcases hv1 with h | h <;> omega); have hsub : IntKind.i64.wrap (v - 1) = v - 1 := (by rw [IntKind.wrap_i64]; omega); have y2 := (c7_cells HS3.out.x).2.2.1; have hX3 : X < w3.heap.size := HS3.out.xlt.2; clear hv1 hrd3 hg3))
      all_goals
        have HS6 := HS5.out.setX 2 (.slice (some ⟨g3, 0, none⟩) (lo.length + 1) cap3)
        have HQ6 := Lib.hid (HQ5.out.same (w' := w5.setCell ⟨X, 2, none⟩ (.slice (some ⟨g3, 0, none⟩) (lo.length + 1) cap3)) heX fun b _ hne _ => Below.heap_setCell _ _ _ b hne)
        have hl1 : (lo ++ [v - 1]).length = lo.length + 1 := by simp
        rw [← hl1] at HS6 HQ6 ⊢
        have hl2 : (lo ++ [v - 1]).length ≤ 1001 := by rw [hl1]; omega
        clear hl1 q2 z2 HS5 HQ5 hown3 hgr3 hat3 hlt3 y2 x2 HS3 HQ3 hX3
        go_upto_region 21 with fail
        have HLO : Hid ((lo ++ [v - 1]).length ≤ 1001) := hl2
        clear hl2
        generalize w5.setCell ⟨X, 2, none⟩ (.slice (some ⟨g3, 0, none⟩) (lo ++ [v - 1]).length cap3) = W6 at *
        generalize lo ++ [v - 1] = lo5 at *
        have x3 : W6.cell? ⟨X, 3, none⟩ = some (.slice C hi.length cc) := by rw [HS6.x.cell]; rfl
        have hX6 : X < W6.heap.size := HS6.xlt.2
        have HS6' := Lib.hid HS6
        clear HS6
        go_region_law (first
          | (refine step_append_lies _ rfl _ _ 28 rfl base 3 i1 _ 1 8 Tryd.underlying28 HJ.out.1 HJ.out.2.1 HJ.out.2.2.1 HJ.out.2.2.2 rfl (by decide) _ _ (ints hi) rfl (HQ7.out.b.alloc _) ⟨w7.heap.size, 0, none⟩ 1 1 [.int .i64 (u - 1)] rfl rfl (cell_one_new _ _ _) (by intro u hu; simp at hu; subst hu; rfl) (by omega) (by unfold maxLen; omega) (by omega) (by simp; omega) _ rfl ?_; intro g5 cap5 w9 hown5 hgr5 hat5 hlt5; have HS9 := Lib.hid ((HS7.out.alloc _).grown hgr5 (HGR.out (rs0 := rs) HQ7.out).2); have HQ9 := Lib.hid ((HQ7.out.same heX fun b _ _ hl => Below.heap_alloc w7 _ b hl).high (by simp; omega) heX hown5 hgr5 hat5); have q3 : w9.cell? ⟨X, 3, none⟩ = some (.slice C hi.length cc) := (by rw [HS9.out.x.cell]; rfl); have z3 := HS9.out.x.frozen 3)
          | (go_simp; go_at_call 14; refine (pick_any B g _ 258 _ HS6'.out.drew.rd (by omega) (by omega) (by omega)).mono ?_; rintro e4 w7 ⟨u, rfl, hu0, hu1, hrd7, hg7⟩; have HS7 := Lib.hid (HS6'.out.drew.touch hg7 hrd7); have HQ7 : Hid (Q4 w7 base s e X lo5 hi kids (some ⟨g3, 0, none⟩) C K cap3 cc kc) := (HQ6.out.same heX (w' := w7) fun b hb _ hl => hg7.block b hl (fun q => by injection q with q; omega)); have hu2 : u ≤ 257 := (by rcases hu1 with h | h <;> omega); have hsub2 : IntKind.i64.wrap (u - 1) = u - 1 := (by rw [IntKind.wrap_i64]; omega); have y3 : w7.cell? ⟨X, 3, none⟩ = some (.slice C hi.length cc) := (by rw [HS7.out.x.cell]; rfl); have hX7 : X < w7.heap.size := HS7.out.xlt.2; clear hu1 hrd7 hg7))
        all_goals
          have HS10 := HS9.out.setX 3 (.slice (some ⟨g5, 0, none⟩) (hi.length + 1) cap5)
          have HQ10 := Lib.hid (HQ9.out.same (w' := w9.setCell ⟨X, 3, none⟩ (.slice (some ⟨g5, 0, none⟩) (hi.length + 1) cap5)) heX fun b _ hne _ => Below.heap_setCell _ _ _ b hne)
          have hl1 : (hi ++ [u - 1]).length = hi.length + 1 := by simp
          rw [← hl1] at HS10 HQ10
          have HFI : Hid (PX base w (w9.setCell ⟨X, 3, none⟩ (.slice (some ⟨g5, 0, none⟩) (hi ++ [u - 1]).length cap5)) X (.slice (some ⟨Rb, 0, none⟩) rs.length c) (c7 kk t (some ⟨g3, 0, none⟩) lo5.length cap3 (some ⟨g5, 0, none⟩) (hi ++ [u - 1]).length cap5 K kids.length kc mn mx) (.mk kk t lo5 (hi ++ [u - 1]) kids mn mx)) := by
            refine HQ10.out.px hT.1 (by omega) hT.2.1 hT.2.2.1 hT.2.2.2.2.1 hT.2.2.2.2.2.1 hx.2 kk t mn mx ?_
            have := HLM1.out
            have h5 := HLO.out
            cases this with | mk _ _ _ _ _ _ _ _ h2 h3 h4 h6 => exact .mk kk t lo5 _ kids mn mx ht5 (by omega) (by rw [hl1]; omega) (by omega) fun p hp => (h6 p hp).up (by omega)
          rw [hl1] at HS10 HFI
          clear hl1 q3 z3 HS9 HQ9 HQ10 hown5 hgr5 hat5 hlt5 y3 x3 HS7 HQ7 hX7 HS6' HQ6
          go_wp2_with fail
          go_meet
          exact ⟨rs, _, c, _, _, HS10.mono (by omega), HFI.out, by omega⟩
    · obtain ⟨i1, hj0, hy0, hy1, hy2⟩ := info_parts infoY31
      have HJ := Lib.hid (And.intro hj0 (And.intro hy0 (And.intro hy1 hy2)))
      clear hj0 hy0 hy1 hy2
      have hxw := HS2.out.xlt
      have x4 := (c7_cells HS2.out.x).2.2.2.2.1
      obtain ⟨hkids, hkl5⟩ : (∀ p ∈ kids, Lim 1000 p) ∧ kids.length ≤ 1000 ∧ lo.length ≤ 1000 ∧ hi.length ≤ 1000 := by
        have := HLM1.out
        cases this with | mk _ _ _ _ _ _ _ _ h2 h3 h4 h5 => exact ⟨h5, h4, h2, h3⟩
      have HKL := Lib.hid hkids
      clear hkids
      obtain ⟨css, hr, hkk⟩ := HO2.out.ks
      have hOB := HO2.out.keep (w' := w2.alloc (.cells (c7 1 ⟨#[113]⟩ none 0 0 none 0 0 none 0 0 0 0).toArray 31)) fun b _ _ hl => Below.heap_alloc w2 _ b hl
      have HOB := Lib.hid hOB
      have HRB := Lib.hid ((own_base hr hT.1).alloc (.cells (c7 1 ⟨#[113]⟩ none 0 0 none 0 0 none 0 0 0 0).toArray 31))
      have HKK : Hid (∀ i (h : i < kids.length), PtC (w2.alloc (.cells (c7 1 ⟨#[113]⟩ none 0 0 none 0 0 none 0 0 0 0).toArray 31)) (fun b => base ≤ b ∧ (Value.slice K kids.length kc).ownBlock ≠ some b ∧ (s ≤ b ∧ b < e)) (sev css i) kids[i]) := fun i hi => (hkk i hi).mv' fun b hb hl => ⟨Below.heap_alloc w2 _ b hl, by omega, hb.2.1, hb.1, hb.2.2.1⟩
      have HSB := HS2.out.alloc (.cells (c7 1 ⟨#[113]⟩ none 0 0 none 0 0 none 0 0 0 0).toArray 31)
      have hlt2 : X < w2.heap.size := hxw.2
      have hbk : Hid (∀ b, (Value.slice K kids.length kc).ownBlock = some b → s ≤ b ∧ b < e) := fun b hb => ⟨(hr.lt b hb).1, HO2.out.ek b hb⟩
      clear hr hkk hOB HS2 HO2
      simp only [c7] at HSB HRB HOB HKK
      go_wp2_with (at_builtin; refine wpList_append_any _ rfl _ _ 29 rfl base 31 i1 _ 7 112 Tryd.underlying29 HJ.out.1 HJ.out.2.1 HJ.out.2.2.1 HJ.out.2.2.2 rfl (by decide) _ _ css rfl HRB.out (some ⟨w2.heap.size, 0, none⟩) 1 1 (c7 1 ⟨#[113]⟩ none 0 0 none 0 0 none 0 0 0 0) rfl (fun h => nomatch h) rfl (fun ad h => by injection h with h; subst h; exact new_cells w2 (c7 1 ⟨#[113]⟩ none 0 0 none 0 0 none 0 0 0 0) 31) (by intro u hu; simp [c7] at hu; rcases hu with rfl | rfl | rfl | rfl | rfl | rfl | rfl <;> rfl) (by unfold maxLen; omega) (by omega) (by simp; omega) ?_)
      intro v' w5 hown hgrow hat
      have HK5 := KR.app (kids := kids) (ps := [.mk 1 ⟨#[113]⟩ [] [] [] 0 0]) HRB.out HKK.out (fun i hi => by
        have e : i = 0 := by simpa using hi
        subst e
        rw [sev_one rfl]
        exact ptC_text _ _ 1 ⟨#[113]⟩) hown hgrow (by simpa using hat)
      obtain ⟨K', kc', rfl⟩ := HK5.form
      have HS5 := HSB.grown hgrow (fun q hq => by
        have h1 := hbk.out q hq
        refine ⟨by omega, fun hF => hT.2.2.2.2.2.2 q hF |>.2 h1, by omega, by omega, by omega, fun e => ?_⟩
        have : Rb = q := by simpa [Value.ownBlock] using e
        omega)
      have ha5 : w5.ownsRow s 3 1 (.slice A lo.length ca) lo.length (ints lo) := HOB.out.a.kept hgrow (by
        rcases hq : (Value.slice A lo.length ca).ownBlock with _ | q
        · exact .inl rfl
        · exact .inr fun e => own_apart HOB.out.a HRB.out (by decide) hq e.symm)
      have hb5 : w5.ownsRow s 3 1 (.slice C hi.length cc) hi.length (ints hi) := HOB.out.b.kept hgrow (by
        rcases hq : (Value.slice C hi.length cc).ownBlock with _ | q
        · exact .inl rfl
        · exact .inr fun e => own_apart HOB.out.b HRB.out (by decide) hq e.symm)
      have HEA := Lib.hid HOB.out.ea
      have HEB := Lib.hid HOB.out.eb
      have hl5 : (kids ++ [Pt.mk 1 ⟨#[113]⟩ [] [] [] 0 0]).length ≤ 1001 := by simp; omega
      have HL5 : Hid (∀ p ∈ kids ++ [Pt.mk 1 ⟨#[113]⟩ [] [] [] 0 0], Lim 5000 p) := fun p hp => (List.mem_append.1 hp).elim (fun h => (HKL.out p h).up (by omega)) fun h => by
        rw [List.mem_singleton] at h; subst h; exact (lim_bare 1 ⟨#[113]⟩ 0 0 (by decide)).up (by omega)
      have HVB : Hid (∀ b, (Value.slice K' (kids ++ [Pt.mk 1 ⟨#[113]⟩ [] [] [] 0 0]).length kc').ownBlock = some b → (s ≤ b ∧ b < e) ∨ X + 1 ≤ b) := fun b hb => by
        rcases hat with q | q
        · exact .inl (hbk.out b (by rw [← q]; exact hb))
        · rw [q] at hb; injection hb with hb; exact .inr (by omega)
      have k4 := (c7_cells HS5.x).2.2.2.2.1
      have f4 := HS5.x.frozen 4
      have HS6 := HS5.setX 4 (.slice K' (kids ++ [Pt.mk 1 ⟨#[113]⟩ [] [] [] 0 0]).length kc')
      have setk : ∀ b, b ≠ X → (w5.setCell ⟨X, 4, none⟩ (.slice K' (kids ++ [Pt.mk 1 ⟨#[113]⟩ [] [] [] 0 0]).length kc')).heap[b]? = w5.heap[b]? := fun b hb => Below.heap_setCell _ _ _ b hb
      have hK6 : KR (w5.setCell ⟨X, 4, none⟩ (.slice K' (kids ++ [Pt.mk 1 ⟨#[113]⟩ [] [] [] 0 0]).length kc')) base (fun b => s ≤ b ∧ b < e) (.slice K' (kids ++ [Pt.mk 1 ⟨#[113]⟩ [] [] [] 0 0]).length kc') (kids ++ [Pt.mk 1 ⟨#[113]⟩ [] [] [] 0 0]) :=
        (HK5.keepX fun b _ _ hb => setk b (by rcases hb with hb | hb; exact (by have := HVB.out b hb; omega); exact (by have := hb.2; omega)))
      have hA6 := own_rowN (own_far ha5 (p := ⟨X, 4, none⟩) (fun b hb => by have := HEA.out b hb; show b ≠ X; omega) (.slice K' (kids ++ [Pt.mk 1 ⟨#[113]⟩ [] [] [] 0 0]).length kc'))
      have hB6 := own_rowN (own_far hb5 (p := ⟨X, 4, none⟩) (fun b hb => by have := HEB.out b hb; show b ≠ X; omega) (.slice K' (kids ++ [Pt.mk 1 ⟨#[113]⟩ [] [] [] 0 0]).length kc'))
      have HA5 := Lib.hid ha5
      have HB5 := Lib.hid hb5
      have HPX : Hid (PX base w (w5.setCell ⟨X, 4, none⟩ (.slice K' (kids ++ [Pt.mk 1 ⟨#[113]⟩ [] [] [] 0 0]).length kc')) X (.slice (some ⟨Rb, 0, none⟩) rs.length c) (c7 kk t A lo.length ca C hi.length cc K' (kids ++ [Pt.mk 1 ⟨#[113]⟩ [] [] [] 0 0]).length kc' mn mx) (.mk kk t lo hi (kids ++ [Pt.mk 1 ⟨#[113]⟩ [] [] [] 0 0]) mn mx)) := by
        refine ⟨fun b => (s ≤ b ∧ b < e) ∨ X + 1 ≤ b, PtC.ofRows kk t mn mx hA6 hB6 hK6 (fun x hx => ?_) (fun x hx => ?_) HVB.out (fun b _ h2 => .inl h2), .mk kk t lo hi _ mn mx ht5 (by omega) (by omega) (by omega) HL5.out, fun b hb => ⟨fun e => ?_, by omega, by omega, by omega, by omega⟩⟩
        · subst hx; exact .inl ⟨(HA5.out.lt _ rfl).1, HEA.out _ rfl⟩
        · subst hx; exact .inl ⟨(HB5.out.lt _ rfl).1, HEB.out _ rfl⟩
        · have : Rb = b := by simpa [Value.ownBlock] using e
          omega
      clear HK5 hown hgrow hat HSB HRB HKK hbk HOB ha5 hb5 hK6 hA6 hB6 setk HS5 HA5 HB5
      generalize kids ++ [Pt.mk 1 ⟨#[113]⟩ [] [] [] 0 0] = kids5 at *
      clear x4
      go_wp2_with fail
      go_meet
      exact ⟨rs, _, c, _, _, HS6.mono (by omega), HPX.out, by omega⟩
    · go_wp2_with fail
      refine (pick_any B g _ 12 _ HS2.out.rd (by omega) (by omega) (by omega)).mono ?_
      rintro e3 w3 ⟨v, rfl, hv0, hv1, hrd3, hg3⟩
      have HS3 := Lib.hid (HS2.out.touch hg3 hrd3)
      have HO3 := HO2.out.keep (w' := w3) fun b h1 _ hl => hg3.block b hl (fun q => by injection q with q; omega)
      have HP3 : Hid (PX base w w3 X (.slice (some ⟨Rb, 0, none⟩) rs.length c) (c7 kk t A lo.length ca C hi.length cc K kids.length kc mn mx) (.mk kk t lo hi kids mn mx)) := PX.ofOPt HO3 hT.1 hT.2.1 hT.2.2.1 hT.2.2.2.2.2.1 hx.2 kk t mn mx HLM1.out HLG.out ht5
      have hv2 : v ≤ 11 := by rcases hv1 with h | h <;> omega
      clear hrd3 hg3 hv1 HO3 HS2 HO2
      go_wp2
      go_loopw [7] (fun q wr => ∃ (j : Nat) (kk : Int) (t : ByteArray) (lo hi : List Int) (kids : List Pt) (mn mx : Int) (A C K : Option Addr) (ca cc kc : Nat), q = .int .i64 j ∧ j ≤ 11 ∧ SS w B0 B g 45000 X k F rs (some ⟨Rb, 0, none⟩) c (c7 kk t A lo.length ca C hi.length cc K kids.length kc mn mx) base wr ∧ Hid (PX base w wr X (.slice (some ⟨Rb, 0, none⟩) rs.length c) (c7 kk t A lo.length ca C hi.length cc K kids.length kc mn mx) (.mk kk t lo hi kids mn mx))) (fun q _ => (intOf q).toNat)
      case atStart => exact ⟨v.toNat, kk, t, lo, hi, kids, mn, mx, A, C, K, ca, cc, kc, by go_num, by omega, HS3.out.mono (by omega), HP3⟩
      case round =>
        clear HS3 HP3 HLG ht5
        obtain ⟨j, kk, t, lo, hi, kids, mn, mx, A, C, K, ca, cc, kc, rfl, hj, HS, HP⟩ := hrel
        obtain ⟨x0, x1, x2, x3, x4, x5, x6⟩ := c7_cells HS.x
        have f0 := HS.x.frozen 0
        have f1 := HS.x.frozen 1
        have f2 := HS.x.frozen 2
        have f3 := HS.x.frozen 3
        have f4 := HS.x.frozen 4
        have f5 := HS.x.frozen 5
        have f6 := HS.x.frozen 6
        have hxl : X < wr.heap.size := HS.x.lt
        by_cases hj1 : 0 < j
        · have hj2 : (0 : Int) < (j : Int) := by omega
          obtain ⟨HS4, HP4⟩ := PX.wrap HS HP.out rfl
          have HP5 := Lib.hid HP4
          clear HP4 HP HS
          go_wp2
          go_roundw
          case rel => exact ⟨j - 1, 6, ⟨#[]⟩, [], [], [.mk kk t lo hi kids mn mx], 0, -1, none, none, _, 0, 0, 1, by go_num, by omega, HS4, HP5⟩
          case measure => simp [intOf]; omega
        · have hj2 : ¬ (0 : Int) < (j : Int) := by omega
          go_wp2_with fail
          go_meet
          exact ⟨rs, _, c, _, _, HS.mono (by omega), HP.out, by omega⟩
    · obtain ⟨i1, hj0, hy0, hy1, hy2⟩ := info_parts infoY33
      have HJ := Lib.hid (And.intro hj0 (And.intro hy0 (And.intro hy1 hy2)))
      clear hj0 hy0 hy1 hy2
      have HO2' := Lib.hid HO2.out
      clear HO2
      go_wp2
      go_loopw [8] (fun q wr => ∃ (j : Nat) (rs2 : List Ru) (R2 c2 : Nat), q = .int .i64 j ∧ j ≤ 30 ∧ Hid (rs2.length = rs.length + j) ∧ SS w B0 B g (N + 3 + j) X k F rs2 (some ⟨R2, 0, none⟩) c2 [.int .i64 kk, .string t, .slice A lo.length ca, .slice C hi.length cc, .slice K kids.length kc, .int .i64 mn, .int .i64 mx] base wr ∧ Hid (OPt wr s e lo hi kids A C K ca cc kc) ∧ (R2 < s ∨ e ≤ R2)) (fun q _ => 40 - (intOf q).toNat)
      case atStart => exact ⟨0, rs, Rb, c, rfl, by omega, rfl, HS2.out.mono (by omega), HO2', hT.2.2.1⟩
      case round =>
        clear HS2 HO2'
        obtain ⟨j, rs2, R2, c2, rfl, hj, HJL, HS, HO, hR2⟩ := hrel
        go_wp2_with fail
        refine (pick_any B g _ 2 _ HS.rd (by omega) (by omega) (by omega)).mono ?_
        rintro e3 w3 ⟨v, rfl, hv0, hv1, hrd3, hg3⟩
        have HS3 := HS.touch hg3 hrd3
        have HO3 := Lib.hid (HO.out.keep (w' := w3) fun b h1 _ hl => hg3.block b hl (fun q => by injection q with q; omega))
        have hv2 : v ≤ 1 := by rcases hv1 with h | h <;> omega
        have hr2l : rs2.length ≤ 40 := by have := HJL.out; omega
        clear hrd3 hg3 hv1 HS HO
        have hxl := HS3.xlt
        by_cases hlt : (j : Int) < 24 + v - 1
        · have gv0 : w3.cell? ⟨w.heap.size, 0, none⟩ = some (.slice (some ⟨R2, 0, none⟩) rs2.length c2) := by rw [HS3.gv.cell]; rfl
          have hgl : w.heap.size < w3.heap.size := by omega
          have hgl2 : w.heap.size < w3.heap.size + 1 := by omega
          have hbown : (w3.alloc (.cells (byts [113, 97 + (j : Int)]).toArray 5)).ownsRow w3.heap.size 5 1 (.slice (some ⟨w3.heap.size, 0, none⟩) 2 2) 2 (byts [113, 97 + (j : Int)]) := own_new w3 5 1 w3.heap.size 2 (byts [113, 97 + (j : Int)]) (Nat.le_refl _) rfl (by simp [maxLen])
          have hcv : (convert 22 9 (.slice (some ⟨w3.heap.size, 0, none⟩) 2 2)).run Tryd.prog (w3.alloc (.cells (byts [113, 97 + (j : Int)]).toArray 5)) = .ok (.string (strOfNums [113, 97 + (j : Int)])) (w3.alloc (.cells (byts [113, 97 + (j : Int)]).toArray 5)) := conv_own (zs := [113, 97 + (j : Int)]) hbown (by simp)
          have HNS : Hid ((strOfNums [113, 97 + (j : Int)]).size ≤ 5000) := by show _ ≤ _; rw [strOfNums_size]; simp
          generalize strOfNums [113, 97 + (j : Int)] = nm at *
          have HSB := (HS3.alloc (.cells (byts [113, 97 + (j : Int)]).toArray 5)).alloc (.cells (.string nm :: c7 4 ⟨#[]⟩ none 0 0 none 0 0 none 0 0 0 0).toArray 33)
          have HOB := Lib.hid ((HO3.out.keep (w' := w3.alloc (.cells (byts [113, 97 + (j : Int)]).toArray 5)) fun b _ _ hl => Below.heap_alloc w3 _ b hl).keep (w' := (w3.alloc (.cells (byts [113, 97 + (j : Int)]).toArray 5)).alloc (.cells (.string nm :: c7 4 ⟨#[]⟩ none 0 0 none 0 0 none 0 0 0 0).toArray 33)) fun b _ _ hl => Below.heap_alloc _ _ b hl)
          clear hbown HS3 HO3
          simp only [c7, byts, List.map_cons, List.map_nil] at HSB HOB hcv
          obtain ⟨xs2, hrow2, hru2⟩ := HSB.row
          have HRU := Lib.hid hru2
          have HRW := Lib.hid hrow2
          clear hru2 hrow2
          have hwrap : IntKind.u8.wrap (97 + (j : Int)) = 97 + (j : Int) := by rw [IntKind.wrap_u8]; omega
          go_wp2_with (at_builtin; refine wpList_append_any _ rfl _ _ 23 rfl base 33 i1 _ 8 128 Tryd.underlying23 HJ.out.1 HJ.out.2.1 HJ.out.2.2.1 HJ.out.2.2.2 rfl (by decide) _ _ xs2 rfl HRW.out (some ⟨w3.heap.size + 1, 0, none⟩) 1 1 (.string nm :: c7 4 ⟨#[]⟩ none 0 0 none 0 0 none 0 0 0 0) rfl (fun h => nomatch h) rfl (fun ad h => by injection h with h; subst h; have := new_cells (w3.alloc (.cells #[.int .u8 113, .int .u8 (97 + (j : Int))] 5)) (.string nm :: c7 4 ⟨#[]⟩ none 0 0 none 0 0 none 0 0 0 0) 33; rw [World.size_alloc] at this; exact this) (by intro u hu; simp [c7] at hu; rcases hu with rfl | rfl | rfl | rfl | rfl | rfl | rfl | rfl <;> rfl) (by unfold maxLen; omega) (by omega) (by simp; omega) ?_)
          intro v' w5 hown hgrow hat
          obtain ⟨A3, cap3, rfl⟩ := own_form hown
          obtain ⟨g3, cap4, ev, _, _⟩ := own_some hown (by omega)
          injection ev with e1 _ e3
          subst e1 e3
          have hat2 : (Value.slice (some ⟨R2, 0, none⟩) rs2.length c2).ownBlock = some g3 ∨ g3 = ((w3.alloc (.cells #[.int .u8 113, .int .u8 (97 + (j : Int))] 5)).alloc (.cells #[.string nm, .int .i64 4, .string ⟨#[]⟩, .slice none 0 0, .slice none 0 0, .slice none 0 0, .int .i64 0, .int .i64 0] 33)).heap.size := by
            rcases hat with q | q
            · exact .inl (by rw [← q]; rfl)
            · exact .inr (by simpa [Value.ownBlock] using q)
          obtain ⟨⟨gk, gf⟩, HS6⟩ := HSB.push HRW.out HRU.out HNS.out hown hgrow hat2
          have HO6 : Hid (OPt (w5.setCell ⟨w.heap.size, 0, none⟩ (.slice (some ⟨g3, 0, none⟩) (rs2.length + 1) cap3)) s e lo hi kids A C K ca cc kc) :=
            (HOB.out.keep (w' := w5) fun b h1 h2 hl => hgrow.block b hl (fun q => (by have h : b = R2 := (by simpa [Value.ownBlock] using q); omega))).keep fun b h1 h2 _ => Below.heap_setCell _ _ _ b (by show b ≠ w.heap.size; omega)
          have HR3 : Hid (g3 < s ∨ e ≤ g3) := by
            rcases hat2 with q | q
            · have : R2 = g3 := by simpa [Value.ownBlock] using q
              show _ ∨ _
              omega
            · show _ ∨ _
              simp only [World.size_alloc] at q
              omega
          have HJ6 : Hid ((rs2 ++ [Ru.mk nm (.mk 4 ⟨#[]⟩ [] [] [] 0 0)]).length = rs.length + (j + 1)) := by show _ = _; rw [List.length_append, HJL.out]; rfl
          clear hown hgrow hat hat2 HSB HRU HRW HOB hcv gv0
          go_wp2
          go_roundw
          case rel => exact ⟨j + 1, _, _, _, by go_num, by omega, HJ6, HS6.mono (by omega), HO6, HR3.out⟩
          case measure => simp [intOf]; omega
        · go_wp2_with fail
          go_meet
          exact ⟨rs2, _, c2, _, _, HS3.mono (by omega), PX.ofOPt HO3.out hT.1 hT.2.1 hR2 hT.2.2.2.2.2.1 hx.2 kk t mn mx HLM1.out HLG.out ht5, by omega⟩
    · obtain ⟨i1, hj0, hy0, hy1, hy2⟩ := info_parts infoY31
      have HJ := Lib.hid (And.intro hj0 (And.intro hy0 (And.intro hy1 hy2)))
      clear hj0 hy0 hy1 hy2
      have hxw := HS2.out.xlt
      have HSE := Lib.hid ((HS2.out.alloc (.cells #[] 31)).mono (N' := N + 3) (by omega))
      have HKE : Hid (KR (w2.alloc (.cells #[] 31)) (X + 1) (fun _ => True) (.slice (some ⟨w2.heap.size, 0, none⟩) 0 0) []) := ⟨[], own_zero w2 31 7 (X + 1) (by omega), fun i hi => absurd hi (by simp)⟩
      clear HS2 HO2
      go_wp2
      go_loopw [9, 10] (fun l q wr => ∃ (j : Nat) (ks : List Pt) (KK : Option Addr) (kk2 : Nat), l = .slice KK ks.length kk2 ∧ q = .int .i64 j ∧ j ≤ 170 ∧ Hid (ks.length = j) ∧ SS w B0 B g (N + 3 + j) X k F rs (some ⟨Rb, 0, none⟩) c [.int .i64 kk, .string t, .slice A lo.length ca, .slice C hi.length cc, .slice K kids.length kc, .int .i64 mn, .int .i64 mx] base wr ∧ Hid (KR wr (X + 1) (fun _ => True) (.slice KK ks.length kk2) ks) ∧ Hid (∀ p ∈ ks, Lim 5000 p)) (fun _ q _ => 200 - (intOf q).toNat)
      case atStart => exact ⟨0, [], _, 0, rfl, rfl, by omega, rfl, HSE.out.mono (by omega), HKE, fun p hp => absurd hp (by simp)⟩
      case round =>
        clear HSE HKE
        clear HLM1 HLG ht5
        obtain ⟨j, kids2, K2, kc2, rfl, rfl, hj, HJL, HS, HK, HL⟩ := hrel
        go_wp2_with fail
        refine (pick_any B g _ 3 _ HS.rd (by omega) (by omega) (by omega)).mono ?_
        rintro e3 w3 ⟨v, rfl, hv0, hv1, hrd3, hg3⟩
        have hkl : kids2.length ≤ 170 := by have := HJL.out; omega
        have HS3 := HS.touch hg3 hrd3
        have HK3 := Lib.hid (HK.out.keep (w' := w3) fun b hb hl => hg3.block b hl (fun q => by injection q with q; omega))
        have hv2 : v ≤ 2 := by rcases hv1 with h | h <;> omega
        clear hrd3 hg3 hv1 HS HK
        have hxl := HS3.xlt
        by_cases hlt : (j : Int) < 160 + v - 3
        · obtain ⟨css, hr, hkk⟩ := HK3.out
          have HRB := Lib.hid (hr.alloc (.cells (c7 1 ⟨#[97]⟩ none 0 0 none 0 0 none 0 0 0 0).toArray 31))
          have HKK : Hid (∀ i (h : i < kids2.length), PtC (w3.alloc (.cells (c7 1 ⟨#[97]⟩ none 0 0 none 0 0 none 0 0 0 0).toArray 31)) (fun b => X + 1 ≤ b ∧ (Value.slice K2 kids2.length kc2).ownBlock ≠ some b ∧ True) (sev css i) kids2[i]) := fun i hi => (hkk i hi).mv fun b _ hl => Below.heap_alloc w3 _ b hl
          have HSB := HS3.alloc (.cells (c7 1 ⟨#[97]⟩ none 0 0 none 0 0 none 0 0 0 0).toArray 31)
          have hlt2 : X < w3.heap.size := hxl.2
          have hbk : Hid (∀ b, (Value.slice K2 kids2.length kc2).ownBlock = some b → X + 1 ≤ b) := fun b hb => (hr.lt b hb).1
          clear hr hkk HK3 HS3
          simp only [c7] at HSB HRB
          go_wp2_with (at_builtin; refine wpList_append_any _ rfl _ _ 29 rfl (X + 1) 31 i1 _ 7 112 Tryd.underlying29 HJ.out.1 HJ.out.2.1 HJ.out.2.2.1 HJ.out.2.2.2 rfl (by decide) _ _ css rfl HRB.out (some ⟨w3.heap.size, 0, none⟩) 1 1 (c7 1 ⟨#[97]⟩ none 0 0 none 0 0 none 0 0 0 0) rfl (fun h => nomatch h) rfl (fun ad h => by injection h with h; subst h; exact new_cells w3 (c7 1 ⟨#[97]⟩ none 0 0 none 0 0 none 0 0 0 0) 31) (by intro u hu; simp [c7] at hu; rcases hu with rfl | rfl | rfl | rfl | rfl | rfl | rfl <;> rfl) (by unfold maxLen; omega) (by omega) (by simp; omega) ?_)
          intro v' w5 hown hgrow hat
          have HK5 := KR.app (kids := kids2) (ps := [.mk 1 ⟨#[97]⟩ [] [] [] 0 0]) HRB.out HKK.out (fun i hi => by
            have e : i = 0 := by simpa using hi
            subst e
            rw [sev_one rfl]
            exact ptC_text _ _ 1 ⟨#[97]⟩) hown hgrow (by simpa using hat)
          obtain ⟨K2', kc2', rfl⟩ := HK5.form
          have HK6 := Lib.hid HK5
          have HS5 := HSB.grown hgrow (fun q hq => by
            have h1 := hbk.out q hq
            refine ⟨by omega, fun hF => ?_, by omega, by omega, by omega, fun e => ?_⟩
            · have := (HSB.hF q hF).2.1; omega
            · have : Rb = q := by simpa [Value.ownBlock] using e
              omega)
          have HL5 : Hid (∀ p ∈ kids2 ++ [Pt.mk 1 ⟨#[97]⟩ [] [] [] 0 0], Lim 5000 p) := fun p hp => (List.mem_append.1 hp).elim (HL.out p) fun h => by
            rw [List.mem_singleton] at h; subst h; exact (lim_bare 1 ⟨#[97]⟩ 0 0 (by decide)).up (by omega)
          have HJ5 : Hid ((kids2 ++ [Pt.mk 1 ⟨#[97]⟩ [] [] [] 0 0]).length = j + 1) := by show _ = _; rw [List.length_append, HJL.out]; rfl
          clear HK5 hown hgrow hat HSB HRB HKK hbk
          generalize kids2 ++ [Pt.mk 1 ⟨#[97]⟩ [] [] [] 0 0] = kids5 at *
          go_wp2
          go_roundw
          case rel => exact ⟨j + 1, kids5, K2', kc2', rfl, by go_num, by omega, HJ5, HS5.mono (by omega), HK6, HL5⟩
          case measure => simp [intOf]; omega
        · obtain ⟨x0, x1, x2, x3, x4, x5, x6⟩ := c7_cells HS3.x
          have f0 := HS3.x.frozen 0
          have f1 := HS3.x.frozen 1
          have f2 := HS3.x.frozen 2
          have f3 := HS3.x.frozen 3
          have f4 := HS3.x.frozen 4
          have f5 := HS3.x.frozen 5
          have f6 := HS3.x.frozen 6
          have HFI := Lib.hid (PX.many HS3 rfl (by omega) HK3.out HL.out (by omega) 4 rfl)
          clear HS3
          go_wp2_with fail
          go_meet
          exact ⟨rs, _, c, _, _, HFI.out.1.mono (by omega), HFI.out.2, by omega⟩
  case rest =>
    clear HS2 HO2
    obtain ⟨rs', a', c', cs, p, HS, ⟨Fp, HPC, HPL, HPF⟩, hrl⟩ := hcut
    obtain ⟨xs', hrow, hru⟩ := HS.row
    have hk' := HS.hk
    obtain ⟨R', cap', ev, hRb, hRl⟩ := own_some hrow (by omega)
    injection ev with e1 _ e3
    subst e1 e3
    obtain ⟨kk', t', lo', hi', kids', mn', mx', A', C', K', ca', cc', kc', rfl, rfl⟩ := HPC.form
    obtain ⟨x0, x1, x2, x3, x4, x5, x6⟩ := c7_cells HS.x
    have g0 : wc.cell? ⟨w.heap.size, 0, none⟩ = some (.slice (some ⟨R', 0, none⟩) rs'.length c') := by rw [HS.gv.cell]; rfl
    have r0 : wc.cell? ⟨w.heap.size + 1, 0, none⟩ = some (.slice none 0 0) := by rw [HS.r.cell]; rfl
    have f0 := HS.r.frozen 0
    have HFI := Lib.hid (SS.fin HS HPC HPL HPF hrl)
    obtain ⟨ci, q1, q2, _⟩ := hru k hk'
    match ci, q2 with
    | [y0, y1, y2, y3, y4, y5, y6], _ =>
      have old : ∀ j u, (eig xs' k)[j]? = some u → j < 8 → wc.cell? ⟨R', k * 8 + j, none⟩ = some u := fun j u hu hj => by
        rw [eig_get hj] at hu
        exact own_cellN hrow _ u hu
      rw [q1] at old
      have z0 : wc.cell? ⟨R', k * 8 + 1, none⟩ = some y0 := old 1 _ rfl (by omega)
      have z1 : wc.cell? ⟨R', k * 8 + 1 + 1, none⟩ = some y1 := old 2 _ rfl (by omega)
      have z2 : wc.cell? ⟨R', k * 8 + 1 + 2, none⟩ = some y2 := old 3 _ rfl (by omega)
      have z3 : wc.cell? ⟨R', k * 8 + 1 + 3, none⟩ = some y3 := old 4 _ rfl (by omega)
      have z4 : wc.cell? ⟨R', k * 8 + 1 + 4, none⟩ = some y4 := old 5 _ rfl (by omega)
      have z5 : wc.cell? ⟨R', k * 8 + 1 + 5, none⟩ = some y5 := old 6 _ rfl (by omega)
      have z6 : wc.cell? ⟨R', k * 8 + 1 + 6, none⟩ = some y6 := old 7 _ rfl (by omega)
      have w0 := hrow.frozenAt (k * 8 + 1)
      have w1 := hrow.frozenAt (k * 8 + 1 + 1)
      have w2 := hrow.frozenAt (k * 8 + 1 + 2)
      have w3 := hrow.frozenAt (k * 8 + 1 + 3)
      have w4 := hrow.frozenAt (k * 8 + 1 + 4)
      have w5 := hrow.frozenAt (k * 8 + 1 + 5)
      have w6 := hrow.frozenAt (k * 8 + 1 + 6)
      have hki' : (k : Int) < (rs'.length : Int) := by omega
      have HRO := Lib.hid hrow
      have hne1 : R' ≠ w.heap.size := by have := own_ne_own hrow HS.gv (by decide) R' rfl; exact this
      have hne2 : R' ≠ w.heap.size + 1 := by have := own_ne_own hrow HS.r (by decide) R' rfl; exact this
      have HR7 := Lib.hid ((((((((HS.r.far (p := ⟨R', k * 8 + 1, none⟩) (fun e => hne2 e.symm) (.int .i64 kk')).far (p := ⟨R', k * 8 + 1 + 1, none⟩) (fun e => hne2 e.symm) (.string t')).far (p := ⟨R', k * 8 + 1 + 2, none⟩) (fun e => hne2 e.symm) (.slice A' lo'.length ca')).far (p := ⟨R', k * 8 + 1 + 3, none⟩) (fun e => hne2 e.symm) (.slice C' hi'.length cc')).far (p := ⟨R', k * 8 + 1 + 4, none⟩) (fun e => hne2 e.symm) (.slice K' kids'.length kc')).far (p := ⟨R', k * 8 + 1 + 5, none⟩) (fun e => hne2 e.symm) (.int .i64 mn')).far (p := ⟨R', k * 8 + 1 + 6, none⟩) (fun e => hne2 e.symm) (.int .i64 mx')).set_ 0 (.slice (some ⟨R', 0, none⟩) rs'.length c'))
      clear hru old q1 hrow HPF HPL HPC HS
      go_wp2
      have q0 := HR7.out.cell 0
      generalize ((((((((wc.setCell ⟨R', k * 8 + 1, none⟩ (.int .i64 kk')).setCell ⟨R', k * 8 + 1 + 1, none⟩ (.string t')).setCell ⟨R', k * 8 + 1 + 2, none⟩ (.slice A' lo'.length ca')).setCell ⟨R', k * 8 + 1 + 3, none⟩ (.slice C' hi'.length cc')).setCell ⟨R', k * 8 + 1 + 4, none⟩ (.slice K' kids'.length kc')).setCell ⟨R', k * 8 + 1 + 5, none⟩ (.int .i64 mn')).setCell ⟨R', k * 8 + 1 + 6, none⟩ (.int .i64 mx')).setCell ⟨w.heap.size + 1, 0, none⟩ (.slice (some ⟨R', 0, none⟩) rs'.length c')) = W9 at *
      simp at q0
      exact bodyPost_ret (v := .agg #[.slice (some ⟨R', 0, none⟩) rs'.length c']) (by simp [results, Tryd.results15, go_sem, q0]) rfl HFI.out

end Go.Proofs.YtjfohdalpjoaeaaDoor
