/- Values in memory that a draw owns: the cells of a value, and which blocks it reaches. No condition. (written by gen_jd.py) -/
import Derived.Test.YtkhcappjhefkjaaGreatDoorJD1
import Derived.Test.YtkhcappjhefkjaaGreatDoorQ2
namespace Go.Proofs.YtkhcappjhefkjaaGreatDoor
open Go.RowKit
set_option linter.unusedVariables false

theorem row_block {w : World} {A : Option Addr} {xs : List Value} (h : Row w A xs) (h0 : xs ≠ []) : ∃ x, A = some x ∧ x.block < w.heap.size := by
  rcases h with h | ⟨b, off, ha, hc⟩
  · exact (h0 h).elim
  · exact ⟨_, ha, cell_lt (hc 0 (by cases xs with | nil => exact (h0 rfl).elim | cons _ _ => simp))⟩
theorem row_same {w w' : World} {F : Nat → Prop} (hF : ∀ b, F b → b < w.heap.size → w'.heap[b]? = w.heap[b]?) {A : Option Addr} {xs : List Value} (h : Row w A xs) (lA : xs ≠ [] → ∀ x, A = some x → F x.block) : Row w' A xs := by
  by_cases h0 : xs = []
  · subst h0; exact .inl rfl
  · rcases h with h | ⟨b, off, ha, hc⟩
    · exact (h0 h).elim
    · refine .inr ⟨b, off, ha, fun i hi => ?_⟩
      have hb := lA h0 _ ha
      rw [World.cell?_of_block (w := w) (hF b hb (cell_lt (hc i hi)))]
      exact hc i hi
theorem strs_ne {ns : List ByteArray} (h : ns ≠ []) : strs ns ≠ [] := by simpa [strs] using h
theorem strs_app (ns : List ByteArray) (x : ByteArray) : strs (ns ++ [x]) = strs ns ++ [.string x] := by simp [strs]
def bols (bs : List Bool) : List Value := bs.map .bool
@[simp] theorem bols_length (bs : List Bool) : (bols bs).length = bs.length := by simp [bols]
theorem bols_app (bs : List Bool) (x : Bool) : bols (bs ++ [x]) = bols bs ++ [.bool x] := by simp [bols]
theorem bols_ne {bs : List Bool} (h : bs ≠ []) : bols bs ≠ [] := by simpa [bols] using h
theorem own_le {w : World} {s size n : Nat} {e : TypeId} {A : Option Addr} {c : Nat} {xs : List Value} (h : w.ownsRow s e size (.slice A n c) n xs) : n ≤ c := by
  rcases h.2 with ⟨hv, rfl⟩ | ⟨g, cap, cur, hv, h1, h2, h3, _⟩
  · injection hv with _ _ e3; omega
  · injection hv with _ _ e3; omega
theorem none_block {k n c : Nat} : (Value.slice none n c).ownBlock ≠ some k := by simp [Value.ownBlock]

/-- The 5 cells. -/
def c5 (k : Int) (f : Bool) (t : ByteArray) (A : Option Addr) (lA ca : Nat) (K : Option Addr) (lk kc : Nat) : List Value :=
  [.int .i64 k, .bool f, .string t, .slice A lA ca, .slice K lk kc]

/-- Cells that are one; all that it reaches lies in blocks of F. -/
inductive JsC (w : World) (F : Nat → Prop) : List Value → Js → Prop
  | mk (k : Int) (f : Bool) (t : ByteArray) (ns : List ByteArray) (kids : List Js) (A K : Option Addr) (ca kc kb ko : Nat) (css : Nat → List Value)
    (hA : Row w A (strs ns)) (lA : ns ≠ [] → ∀ x, A = some x → F x.block) (eA : ns.length ≤ ca)
    (hK : kids ≠ [] → K = some ⟨kb, ko, none⟩ ∧ F kb) (hl : ∀ i, i < kids.length → (css i).length = 5)
    (hc : ∀ i, i < kids.length → ∀ j u, (css i)[j]? = some u → w.cell? ⟨kb, ko + i * 5 + j, none⟩ = some u)
    (hk : ∀ i (h : i < kids.length), JsC w F (css i) kids[i]) : JsC w F (c5 k f t A ns.length ca K kids.length kc) (.mk k f t ns kids)

theorem JsC.mv {w w' : World} {F : Nat → Prop} (hF : ∀ b, F b → b < w.heap.size → w'.heap[b]? = w.heap[b]?) {cs : List Value} {p : Js} (h : JsC w F cs p) : JsC w' F cs p := by
  induction h with
  | mk k f t ns kids A K ca kc kb ko css hA lA eA hK hl hc hk ih =>
    refine .mk k f t ns kids A K ca kc kb ko css (row_same hF hA (fun h0 => lA (fun e => h0 (by rw [e]; rfl)))) lA eA hK hl (fun i hi j u hu => ?_) ih
    have h1 := hc i hi j u hu
    have hb := (hK (fun e => by subst e; simp at hi)).2
    rw [World.cell?_of_block (w := w) (hF kb hb (cell_lt h1))]
    exact h1
theorem JsC.mono {w : World} {F F' : Nat → Prop} (hF : ∀ b, F b → b < w.heap.size → F' b) {cs : List Value} {p : Js} (h : JsC w F cs p) : JsC w F' cs p := by
  induction h with
  | mk k f t ns kids A K ca kc kb ko css hA lA eA hK hl hc hk ih =>
    refine .mk k f t ns kids A K ca kc kb ko css hA (fun h0 x hx => ?_) eA (fun h0 => ⟨(hK h0).1, ?_⟩) hl hc ih
    · obtain ⟨y, hy, hlt⟩ := row_block hA (strs_ne h0)
      rw [hx] at hy; injection hy with hy; subst hy
      exact hF _ (lA h0 x hx) hlt
    · have hpos : 0 < kids.length := List.length_pos_iff.2 h0
      have hl0 := hl 0 hpos
      have h1 := hc 0 hpos 0 ((css 0)[0]'(by omega)) (List.getElem?_eq_getElem _)
      exact hF _ (hK h0).2 (cell_lt h1)
theorem JsC.mv' {w w' : World} {F F' : Nat → Prop} (hF : ∀ b, F b → b < w.heap.size → w'.heap[b]? = w.heap[b]? ∧ F' b) {cs : List Value} {p : Js} (h : JsC w F cs p) : JsC w' F' cs p :=
  (h.mono (F' := fun b => F b ∧ F' b) fun b hb hl => ⟨hb, (hF b hb hl).2⟩).mv (fun b hb hl => (hF b hb.1 hl).1) |>.mono fun b hb _ => hb.2
theorem JsC.len {w : World} {F : Nat → Prop} {cs : List Value} {p : Js} (h : JsC w F cs p) : cs.length = 5 := by
  cases h; rfl
theorem JsC.ones {w : World} {F : Nat → Prop} {cs : List Value} {p : Js} (h : JsC w F cs p) : ∀ u ∈ cs, u.oneCell' = true := by
  cases h
  intro u hu
  simp [c5] at hu
  rcases hu with rfl | rfl | rfl | rfl | rfl <;> rfl

/-- The i-th 5 of a row of cells. -/
def g5 (css : List Value) (i : Nat) : List Value := (css.drop (i * 5)).take 5
theorem g5_get {css : List Value} {i j : Nat} (hj : j < 5) : (g5 css i)[j]? = css[i * 5 + j]? := by
  unfold g5
  rw [List.getElem?_take_of_lt hj, List.getElem?_drop]
theorem g5_app_left {css cs : List Value} {i : Nat} (h : i * 5 + 5 ≤ css.length) : g5 (css ++ cs) i = g5 css i := by
  unfold g5
  rw [List.drop_append_of_le_length (by omega), List.take_append_of_le_length (by simp; omega)]
theorem g5_app_right {css cs : List Value} {n i : Nat} (h : css.length = n * 5) (hi : n ≤ i) : g5 (css ++ cs) i = g5 cs (i - n) := by
  unfold g5
  rw [List.drop_append, List.drop_eq_nil_of_le (by omega), List.nil_append, show i * 5 - css.length = (i - n) * 5 by omega]
theorem g5_len {css : List Value} {i : Nat} (h : i * 5 + 5 ≤ css.length) : (g5 css i).length = 5 := by
  unfold g5; simp; omega
theorem g5_one {cs : List Value} (h : cs.length = 5) : g5 cs 0 = cs := by
  unfold g5; rw [Nat.zero_mul, List.drop_zero, List.take_of_length_le (by omega)]

/-- A row of them that the call owns; what they reach lies from block s on, and not in the row itself. -/
def JsCs (w : World) (s : Nat) (X : Nat → Prop) (v : Value) (kids : List Js) : Prop :=
  ∃ css, w.ownsRow s 42 5 v kids.length css ∧ ∀ i (h : i < kids.length), JsC w (fun b => s ≤ b ∧ v.ownBlock ≠ some b ∧ X b) (g5 css i) kids[i]

theorem JsCs.nil (w : World) (s : Nat) (X : Nat → Prop) : JsCs w s X (.slice none 0 0) [] := ⟨[], by simpa using World.ownsRow_nil w s 42 5, fun i h => absurd h (by simp)⟩
theorem JsCs.form {w : World} {s : Nat} {X : Nat → Prop} {v : Value} {kids : List Js} (h : JsCs w s X v kids) : ∃ K kc, v = .slice K kids.length kc := by
  obtain ⟨css, h, _⟩ := h; exact own_form h
theorem JsCs.keep {w w' : World} {s : Nat} {X : Nat → Prop} {v : Value} {kids : List Js} (h : JsCs w s X v kids) (hb : ∀ b, s ≤ b → b < w.heap.size → w'.heap[b]? = w.heap[b]?) : JsCs w' s X v kids := by
  obtain ⟨css, h, hk⟩ := h
  exact ⟨css, own_same h fun b hb' => hb b (h.lt b hb').1 (h.lt b hb').2, fun i hi => (hk i hi).mv fun b hb' hl => hb b hb'.1 hl⟩
theorem JsCs.lt {w : World} {s : Nat} {X : Nat → Prop} {v : Value} {kids : List Js} (h : JsCs w s X v kids) : ∀ k, v.ownBlock = some k → s ≤ k ∧ k < w.heap.size := by
  obtain ⟨css, h, hk⟩ := h; exact h.lt
theorem JsCs.mono {w : World} {s s' : Nat} {X X' : Nat → Prop} {v : Value} {kids : List Js} (h : JsCs w s X v kids) (hs : s' ≤ s) (hX : ∀ b, s ≤ b → b < w.heap.size → X b → X' b) : JsCs w s' X' v kids := by
  obtain ⟨css, h, hk⟩ := h
  exact ⟨css, own_base h hs, fun i hi => (hk i hi).mono fun b hb hl => ⟨by omega, hb.2.1, hX b hb.1 hl hb.2.2⟩⟩
/-- Some are put behind. -/
theorem JsCs.app {w w' : World} {s : Nat} {X : Nat → Prop} {v v' : Value} {kids ps : List Js} {css cs : List Value} (hr : w.ownsRow s 42 5 v kids.length css) (hk : ∀ i (h : i < kids.length), JsC w (fun b => s ≤ b ∧ v.ownBlock ≠ some b ∧ X b) (g5 css i) kids[i])
    (hp : ∀ i (h : i < ps.length), JsC w (fun b => s ≤ b ∧ v.ownBlock ≠ some b ∧ X b) (g5 cs i) ps[i]) (ho : w'.ownsRow s 42 5 v' (kids.length + ps.length) (css ++ cs)) (hg : w.grownBy w' v.ownBlock) (hv : v'.ownBlock = v.ownBlock ∨ v'.ownBlock = some w.heap.size) :
    JsCs w' s X v' (kids ++ ps) := by
  have mv : ∀ {c : List Value} {p : Js}, JsC w (fun b => s ≤ b ∧ v.ownBlock ≠ some b ∧ X b) c p → JsC w' (fun b => s ≤ b ∧ v'.ownBlock ≠ some b ∧ X b) c p := fun h => h.mv' fun b hb hl =>
    ⟨hg.block b hl (fun e => hb.2.1 e.symm), hb.1, by rcases hv with e | e <;> rw [e]; exact hb.2.1; (intro e2; injection e2 with e2; omega), hb.2.2⟩
  have hl := hr.1
  refine ⟨css ++ cs, by rw [List.length_append]; exact ho, fun i hi => ?_⟩
  by_cases hlt : i < kids.length
  · rw [g5_app_left (by rw [hl]; omega), List.getElem_append_left hlt]
    exact mv (hk i hlt)
  · rw [g5_app_right hl (by omega), List.getElem_append_right (by omega)]
    exact mv (hp _ _)
/-- One of one. -/
theorem JsCs.one {w : World} {s : Nat} {X : Nat → Prop} {cs : List Value} {p : Js} (h : JsC w (fun b => s ≤ b ∧ X b) cs p) (hs : s ≤ w.heap.size) : JsCs (w.alloc (.cells cs.toArray 42)) s X (.slice (some ⟨w.heap.size, 0, none⟩) 1 1) [p] := by
  refine ⟨cs, own_new w 42 5 s 1 cs hs (by rw [h.len]) (by decide), fun i hi => ?_⟩
  obtain rfl : i = 0 := by simpa using hi
  rw [g5_one h.len]
  exact h.mv' fun b hb hl => ⟨Below.heap_alloc w _ b hl, hb.1, fun e => Nat.lt_irrefl w.heap.size (by have e' : some w.heap.size = some b := e; injection e' with e'; omega), hb.2⟩

/-- Two of two. -/
theorem JsCs.two {w : World} {s : Nat} {X : Nat → Prop} {cs cs' : List Value} {p q : Js} (h : JsC w (fun b => s ≤ b ∧ X b) cs p) (h' : JsC w (fun b => s ≤ b ∧ X b) cs' q) (hs : s ≤ w.heap.size) : JsCs (w.alloc (.cells (cs ++ cs').toArray 42)) s X (.slice (some ⟨w.heap.size, 0, none⟩) 2 2) [p, q] := by
  refine ⟨cs ++ cs', own_new w 42 5 s 2 (cs ++ cs') hs (by rw [List.length_append, h.len, h'.len]) (by decide), fun i hi => ?_⟩
  have mv : ∀ {c : List Value} {r : Js}, JsC w (fun b => s ≤ b ∧ X b) c r → JsC (w.alloc (.cells (cs ++ cs').toArray 42)) (fun b => s ≤ b ∧ (Value.slice (some ⟨w.heap.size, 0, none⟩) 2 2).ownBlock ≠ some b ∧ X b) c r := fun h => h.mv' fun b hb hl => ⟨Below.heap_alloc w _ b hl, hb.1, fun e => Nat.lt_irrefl w.heap.size (by have e' : some w.heap.size = some b := e; injection e' with e'; omega), hb.2⟩
  have hi2 : i = 0 ∨ i = 1 := by simp at hi; omega
  rcases hi2 with rfl | rfl
  · rw [g5_app_left (by rw [h.len]; omega), g5_one h.len]; exact mv h
  · rw [g5_app_right (n := 1) (by rw [h.len]) (Nat.le_refl _), g5_one h'.len]; exact mv h'

/-- One whose own rows the call owns, too. -/
structure JsCT (w : World) (s : Nat) (ns : List ByteArray) (kids : List Js) (A K : Option Addr) (ca kc : Nat) : Prop where
  oA : w.ownsRow s 9 1 (.slice A ns.length ca) ns.length (strs ns)
  ks : JsCs w s (fun b => (Value.slice A ns.length ca).ownBlock ≠ some b) (.slice K kids.length kc) kids

section
variable {w w' : World} {s : Nat} {ns : List ByteArray} {kids : List Js} {A K : Option Addr} {ca kc : Nat}
theorem JsCT.keep (h : JsCT w s ns kids A K ca kc) (hb : ∀ b, s ≤ b → b < w.heap.size → w'.heap[b]? = w.heap[b]?) : JsCT w' s ns kids A K ca kc :=
  ⟨own_same h.oA fun b hb' => hb b (h.oA.lt b hb').1 (h.oA.lt b hb').2, h.ks.keep hb⟩
theorem JsCT.bare (w : World) (s : Nat) : JsCT w s [] [] none none 0 0 :=
  ⟨by simpa [strs, bols] using World.ownsRow_nil w s 9 1, JsCs.nil w s _⟩
theorem JsCT.low {s' : Nat} (h : JsCT w s ns kids A K ca kc) (hs : s' ≤ s) : JsCT w s' ns kids A K ca kc :=
  ⟨own_base h.oA hs, h.ks.mono hs fun _ _ _ h => h⟩
theorem JsCT.toC (h : JsCT w s ns kids A K ca kc) (k : Int) (f : Bool) (t : ByteArray) : JsC w (fun b => s ≤ b) (c5 k f t A ns.length ca K kids.length kc) (.mk k f t ns kids) := by
  obtain ⟨css, hr, hk⟩ := h.ks
  have rowBlock : ∀ {e : TypeId} {A : Option Addr} {n c : Nat} {xs : List Value}, w.ownsRow s e 1 (.slice A n c) n xs → ∀ x, A = some x → s ≤ x.block := fun h x hx => by
    subst hx; exact (h.lt _ rfl).1
  by_cases h0 : kids = []
  · subst h0
    exact .mk k f t ns [] A K ca kc 0 0 (fun _ => []) (own_rowN h.oA) (fun _ => rowBlock h.oA) (own_le h.oA) (fun e => (e rfl).elim) (fun i hi => absurd hi (by simp)) (fun i hi => absurd hi (by simp)) (fun i hi => absurd hi (by simp))
  · obtain ⟨g, cap, e, hge, _⟩ := own_some hr (List.length_pos_iff.2 h0)
    injection e with e1 e2 e3
    subst e1 e3
    have hl := hr.1
    refine .mk k f t ns kids A _ ca kc g 0 (g5 css) (own_rowN h.oA) (fun _ => rowBlock h.oA) (own_le h.oA) (fun _ => ⟨rfl, hge⟩) (fun i hi => g5_len (by rw [hl]; omega)) (fun i hi j u hu => ?_) fun i hi => (hk i hi).mono fun b hb _ => hb.1
    have hj : j < 5 := by
      have := (List.getElem?_eq_some_iff.1 hu).1
      rw [g5_len (by rw [hl]; omega)] at this
      exact this
    rw [g5_get hj] at hu
    rw [Nat.zero_add]
    exact own_cellN hr _ u hu
end

/-- A row of them as what is appended. -/
theorem JsCs.ones {w : World} {s : Nat} {v : Value} {F : Nat → Prop} {kids : List Js} {css : List Value} (hr : w.ownsRow s 42 5 v kids.length css) (hk : ∀ i (h : i < kids.length), JsC w F (g5 css i) kids[i]) : ∀ u ∈ css, u.oneCell' = true := by
  intro u hu
  obtain ⟨q, hq, rfl⟩ := List.getElem_of_mem hu
  have hl := hr.1
  have h1 : q / 5 < kids.length := by omega
  refine (hk (q / 5) h1).ones _ ?_
  apply List.mem_of_getElem? (i := q % 5)
  rw [g5_get (by omega), show q / 5 * 5 + q % 5 = q by omega]
  exact List.getElem?_eq_getElem hq

/-- One more in the row ns. -/
theorem JsCT.appA {w w' : World} {s : Nat} {ns : List ByteArray} {kids : List Js} {A K : Option Addr} {ca kc : Nat} {v' : Value} {x : ByteArray} (h : JsCT w s ns kids A K ca kc)
    (ho : w'.ownsRow s 9 1 v' (ns.length + 1) (strs ns ++ [.string x])) (hg : w.grownBy w' (Value.slice A ns.length ca).ownBlock) (hv : v'.ownBlock = (Value.slice A ns.length ca).ownBlock ∨ v'.ownBlock = some w.heap.size) :
    ∃ A' ca', v' = .slice A' (ns ++ [x]).length ca' ∧ JsCT w' s (ns ++ [x]) kids A' K ca' kc := by
  have e1 : (ns ++ [x]).length = ns.length + 1 := by simp
  rw [← e1] at ho
  obtain ⟨A', ca', rfl⟩ := own_form ho
  obtain ⟨css, hr, hk⟩ := h.ks
  refine ⟨A', ca', rfl, by rw [strs_app]; exact ho, css, own_same hr fun b hb => hg.block b (hr.lt b hb).2 (fun e => own_apart h.oA hr (by decide) e.symm hb), fun i hi => (hk i hi).mv' fun b hb hl => ⟨hg.block b hl (fun e => hb.2.2 e.symm), hb.1, hb.2.1, (fun e2 => hv.elim (fun e3 => hb.2.2 (e3.symm.trans e2)) (fun e3 => by rw [e3] at e2; injection e2 with e2; omega))⟩⟩
/-- One that has one kid, or two, and nothing else. -/
theorem JsCT.ofKid {w : World} {s : Nat} {cs : List Value} {p : Js} (h : JsC w (fun b => s ≤ b) cs p) (hs : s ≤ w.heap.size) : JsCT (w.alloc (.cells cs.toArray 42)) s [] [p] none (some ⟨w.heap.size, 0, none⟩) 0 1 :=
  ⟨by simpa [strs, bols] using World.ownsRow_nil _ s 9 1, JsCs.one (h.mono fun b hb _ => ⟨hb, none_block⟩) hs⟩
theorem JsCT.ofTwo {w : World} {s : Nat} {cs cs' : List Value} {p q : Js} (h : JsC w (fun b => s ≤ b) cs p) (h' : JsC w (fun b => s ≤ b) cs' q) (hs : s ≤ w.heap.size) : JsCT (w.alloc (.cells (cs ++ cs').toArray 42)) s [] [p, q] none (some ⟨w.heap.size, 0, none⟩) 0 2 :=
  ⟨by simpa [strs, bols] using World.ownsRow_nil _ s 9 1, JsCs.two (h.mono fun b hb _ => ⟨hb, none_block⟩) (h'.mono fun b hb _ => ⟨hb, none_block⟩) hs⟩
/-- One more kid. -/
theorem JsCT.appK {w w' : World} {s : Nat} {ns : List ByteArray} {kids : List Js} {A K : Option Addr} {ca kc : Nat} {v' : Value} {p : Js} {css cs : List Value} (h : JsCT w s ns kids A K ca kc)
    (hr : w.ownsRow s 42 5 (.slice K kids.length kc) kids.length css) (hk : ∀ i (h : i < kids.length), JsC w (fun b => s ≤ b ∧ (Value.slice K kids.length kc).ownBlock ≠ some b ∧ ((Value.slice A ns.length ca).ownBlock ≠ some b)) (g5 css i) kids[i])
    (hp : JsC w (fun b => s ≤ b ∧ (Value.slice K kids.length kc).ownBlock ≠ some b ∧ ((Value.slice A ns.length ca).ownBlock ≠ some b)) cs p)
    (ho : w'.ownsRow s 42 5 v' (kids.length + 1) (css ++ cs)) (hg : w.grownBy w' (Value.slice K kids.length kc).ownBlock) (hv : v'.ownBlock = (Value.slice K kids.length kc).ownBlock ∨ v'.ownBlock = some w.heap.size) :
    ∃ K' kc', v' = .slice K' (kids ++ [p]).length kc' ∧ JsCT w' s ns (kids ++ [p]) A K' ca kc' := by
  have hK := JsCs.app (ps := [p]) hr hk (fun i hi => by
    obtain rfl : i = 0 := by simpa using hi
    rw [g5_one hp.len]; exact hp) ho hg hv
  obtain ⟨K', kc', rfl⟩ := hK.form
  exact ⟨K', kc', rfl, own_same h.oA fun b hb => hg.block b (h.oA.lt b hb).2 (fun e => own_apart h.oA hr (by decide) hb e.symm), hK⟩

/-- One under way, in block P; w1: the world before it. -/
structure JsCS (w1 : World) (B g N P s : Nat) (cs : List Value) (ns : List ByteArray) (kids : List Js) (A K : Option Addr) (ca kc : Nat) (w : World) : Prop where
  p : Own w P 42 cs
  t : JsCT w s ns kids A K ca kc
  rd : Rd w B g N
  fr : w1.grownBy w (some g)
  hB : B ≤ w1.heap.size
  hP : w1.heap.size ≤ P
  hs : P < s

section
variable {w1 w w' : World} {B g N N' P s : Nat} {cs : List Value} {ns : List ByteArray} {kids : List Js} {A K : Option Addr} {ca kc : Nat}
theorem JsCS.lt (h : JsCS w1 B g N P s cs ns kids A K ca kc w) : P < w.heap.size := h.p.lt
theorem JsCS.g_lt (h : JsCS w1 B g N P s cs ns kids A K ca kc w) : g < w1.heap.size := by have := h.rd.ltB; have := h.hB; omega
theorem JsCS.touch (h : JsCS w1 B g N P s cs ns kids A K ca kc w) (hg : w.grownBy w' (some g)) (hr : Rd w' B g N') : JsCS w1 B g N' P s cs ns kids A K ca kc w' :=
  ⟨own_touch h.p hg (by have := h.g_lt; have := h.hP; omega), h.t.keep fun b hb hl => hg.block b hl (fun e => by injection e with e; have := h.g_lt; have := h.hP; have := h.hs; omega), hr, only_trans h.fr hg, h.hB, h.hP, h.hs⟩
theorem JsCS.alloc (h : JsCS w1 B g N P s cs ns kids A K ca kc w) (o : Obj) : JsCS w1 B g N P s cs ns kids A K ca kc (w.alloc o) :=
  ⟨h.p.alloc o, h.t.keep fun b hb hl => Below.heap_alloc w o b hl, h.rd.alloc (by have := h.lt; have := h.hB; have := h.hP; omega) o, only_alloc h.fr o, h.hB, h.hP, h.hs⟩
theorem JsCS.drew (h : JsCS w1 B g N P s cs ns kids A K ca kc w) : JsCS w1 B g N P s cs ns kids A K ca kc w.drew :=
  ⟨h.p.drew, h.t.keep fun _ _ _ => rfl, h.rd.drew, ⟨h.fr.os, h.fr.tape, h.fr.output, h.fr.size, h.fr.block⟩, h.hB, h.hP, h.hs⟩
theorem JsCS.mono (h : JsCS w1 B g N P s cs ns kids A K ca kc w) (hN : N ≤ N') : JsCS w1 B g N' P s cs ns kids A K ca kc w := ⟨h.p, h.t, h.rd.mono (Nat.le_refl _) hN, h.fr, h.hB, h.hP, h.hs⟩
/-- A cell of it is written. -/
theorem JsCS.set (h : JsCS w1 B g N P s cs ns kids A K ca kc w) (i : Nat) (u : Value) : JsCS w1 B g N P s (cs.set i u) ns kids A K ca kc (w.setCell ⟨P, i, none⟩ u) :=
  ⟨h.p.set_ i u, h.t.keep fun b hb _ => Below.heap_setCell _ _ _ b (by have := h.hs; show b ≠ P; omega), h.rd.setCell (by have := h.hB; have := h.hP; show B ≤ P; omega) u,
    ⟨h.fr.os, h.fr.tape, h.fr.output, Nat.le_trans h.fr.size (by simp), fun z hz hn => (Below.heap_setCell _ _ _ z (by have := h.hP; show z ≠ P; omega)).trans (h.fr.block z hz hn)⟩, h.hB, h.hP, h.hs⟩
/-- What it owns has changed, in blocks from s on. -/
theorem JsCS.grow {ns' : List ByteArray} {kids' : List Js} {A' K' : Option Addr} {ca' kc' : Nat} {row : Option Nat} (h : JsCS w1 B g N P s cs ns kids A K ca kc w) (hg : w.grownBy w' row) (hr : ∀ k, row = some k → s ≤ k)
    (ht : JsCT w' s ns' kids' A' K' ca' kc') : JsCS w1 B g N P s cs ns' kids' A' K' ca' kc' w' :=
  ⟨(hg.block _ h.lt (fun e => by have := hr _ e.symm; have := h.hs; omega)).trans h.p, ht, h.rd.grown (by have := h.lt; have := h.hB; have := h.hP; omega) hg (fun k hk => by have := hr k hk; have := h.hB; have := h.hP; have := h.hs; omega), only_new h.fr hg (fun k hk => by have := hr k hk; have := h.hP; have := h.hs; omega), h.hB, h.hP, h.hs⟩
/-- It begins: zero cells in a new block. -/
theorem JsCS.start (hr : Rd w B g N) (hf : w1.grownBy w (some g)) (hB : B ≤ w1.heap.size) (cs : List Value) : JsCS w1 B g N w.heap.size (w.heap.size + 1) cs [] [] none none 0 0 (w.alloc (.cells cs.toArray 42)) :=
  ⟨by simpa using Own.new w 42 cs.toArray, JsCT.bare _ _, hr.alloc (by have := hf.size; omega) _, only_alloc hf _, hB, hf.size, Nat.lt_succ_self _⟩
end

/-- A value as the laws on values want it. -/
theorem JsC.jsAt {w : World} {F : Nat → Prop} {cs : List Value} {p : Js} (h : JsC w F cs p) : ∀ {b off : Nat}, (∀ j u, cs[j]? = some u → w.cell? ⟨b, off + j, none⟩ = some u) → JsAt w 0 b off p := by
  induction h with
  | mk k f t ns kids A K ca kc kb ko css hA lA eA hK hl hc hk ih =>
    intro b off hcell
    exact .mk b off k f t ns kids A K ca kc kb ko (hcell 0 _ rfl) (hcell 1 _ rfl) (hcell 2 _ rfl) (hcell 3 _ rfl) (hcell 4 _ rfl) eA hA (fun h0 => (hK h0).1)
      (fun i hi => ih i hi fun j u hu => hc i hi j u hu) (Nat.zero_le _) (fun _ _ => Nat.zero_le _)
theorem JsCT.jsV {w : World} {s : Nat} {ns : List ByteArray} {kids : List Js} {A K : Option Addr} {ca kc : Nat} (h : JsCT w s ns kids A K ca kc) : JsV w 0 ns kids A K := by
  have hc := h.toC 0 false ByteArray.empty
  generalize hcs : c5 0 false ByteArray.empty A ns.length ca K kids.length kc = cs at hc
  generalize hp : Js.mk 0 false ByteArray.empty ns kids = p at hc
  cases hc with
  | mk k f t ns' kids' A' K' ca' kc' kb ko css hA lA eA hK hl hc hk =>
    injection hp with _ _ _ e1 e2
    subst e1 e2
    simp only [c5, List.cons.injEq, Value.slice.injEq, and_true, true_and] at hcs
    obtain ⟨_, _, _, ⟨rfl, _⟩, rfl, _⟩ := hcs
    exact ⟨hA, ⟨kb, ko, fun h0 => (hK h0).1, fun i hi => (hk i hi).jsAt fun j u hu => hc i hi j u hu⟩, fun _ _ => Nat.zero_le _⟩

end Go.Proofs.YtkhcappjhefkjaaGreatDoor

/- Schemas in memory that a draw owns. No condition. (written by gen_jd.py) -/
namespace Go.Proofs.YtkhcappjhefkjaaGreatDoor
open Go.RowKit
set_option linter.unusedVariables false

/-- A schema. -/
inductive Sc
  | mk (k mn mx : Int) (ns : List ByteArray) (ms : List Bool) (kids : List Sc)


/-- The 6 cells. -/
def c6 (k mn mx : Int) (A : Option Addr) (lA ca : Nat) (M : Option Addr) (lM ma : Nat) (K : Option Addr) (lk kc : Nat) : List Value :=
  [.int .i64 k, .int .i64 mn, .int .i64 mx, .slice A lA ca, .slice M lM ma, .slice K lk kc]

/-- Cells that are one; all that it reaches lies in blocks of F. -/
inductive ScC (w : World) (F : Nat → Prop) : List Value → Sc → Prop
  | mk (k mn mx : Int) (ns : List ByteArray) (ms : List Bool) (kids : List Sc) (A M K : Option Addr) (ca ma kc kb ko : Nat) (css : Nat → List Value)
    (hA : Row w A (strs ns)) (hM : Row w M (bols ms)) (lA : ns ≠ [] → ∀ x, A = some x → F x.block) (lM : ms ≠ [] → ∀ x, M = some x → F x.block) (eA : ns.length ≤ ca) (eM : ms.length ≤ ma)
    (hK : kids ≠ [] → K = some ⟨kb, ko, none⟩ ∧ F kb) (hl : ∀ i, i < kids.length → (css i).length = 6)
    (hc : ∀ i, i < kids.length → ∀ j u, (css i)[j]? = some u → w.cell? ⟨kb, ko + i * 6 + j, none⟩ = some u)
    (hk : ∀ i (h : i < kids.length), ScC w F (css i) kids[i]) : ScC w F (c6 k mn mx A ns.length ca M ms.length ma K kids.length kc) (.mk k mn mx ns ms kids)

theorem ScC.mv {w w' : World} {F : Nat → Prop} (hF : ∀ b, F b → b < w.heap.size → w'.heap[b]? = w.heap[b]?) {cs : List Value} {p : Sc} (h : ScC w F cs p) : ScC w' F cs p := by
  induction h with
  | mk k mn mx ns ms kids A M K ca ma kc kb ko css hA hM lA lM eA eM hK hl hc hk ih =>
    refine .mk k mn mx ns ms kids A M K ca ma kc kb ko css (row_same hF hA (fun h0 => lA (fun e => h0 (by rw [e]; rfl)))) (row_same hF hM (fun h0 => lM (fun e => h0 (by rw [e]; rfl)))) lA lM eA eM hK hl (fun i hi j u hu => ?_) ih
    have h1 := hc i hi j u hu
    have hb := (hK (fun e => by subst e; simp at hi)).2
    rw [World.cell?_of_block (w := w) (hF kb hb (cell_lt h1))]
    exact h1
theorem ScC.mono {w : World} {F F' : Nat → Prop} (hF : ∀ b, F b → b < w.heap.size → F' b) {cs : List Value} {p : Sc} (h : ScC w F cs p) : ScC w F' cs p := by
  induction h with
  | mk k mn mx ns ms kids A M K ca ma kc kb ko css hA hM lA lM eA eM hK hl hc hk ih =>
    refine .mk k mn mx ns ms kids A M K ca ma kc kb ko css hA hM (fun h0 x hx => ?_) (fun h0 x hx => ?_) eA eM (fun h0 => ⟨(hK h0).1, ?_⟩) hl hc ih
    · obtain ⟨y, hy, hlt⟩ := row_block hA (strs_ne h0)
      rw [hx] at hy; injection hy with hy; subst hy
      exact hF _ (lA h0 x hx) hlt
    · obtain ⟨y, hy, hlt⟩ := row_block hM (bols_ne h0)
      rw [hx] at hy; injection hy with hy; subst hy
      exact hF _ (lM h0 x hx) hlt
    · have hpos : 0 < kids.length := List.length_pos_iff.2 h0
      have hl0 := hl 0 hpos
      have h1 := hc 0 hpos 0 ((css 0)[0]'(by omega)) (List.getElem?_eq_getElem _)
      exact hF _ (hK h0).2 (cell_lt h1)
theorem ScC.mv' {w w' : World} {F F' : Nat → Prop} (hF : ∀ b, F b → b < w.heap.size → w'.heap[b]? = w.heap[b]? ∧ F' b) {cs : List Value} {p : Sc} (h : ScC w F cs p) : ScC w' F' cs p :=
  (h.mono (F' := fun b => F b ∧ F' b) fun b hb hl => ⟨hb, (hF b hb hl).2⟩).mv (fun b hb hl => (hF b hb.1 hl).1) |>.mono fun b hb _ => hb.2
theorem ScC.len {w : World} {F : Nat → Prop} {cs : List Value} {p : Sc} (h : ScC w F cs p) : cs.length = 6 := by
  cases h; rfl
theorem ScC.ones {w : World} {F : Nat → Prop} {cs : List Value} {p : Sc} (h : ScC w F cs p) : ∀ u ∈ cs, u.oneCell' = true := by
  cases h
  intro u hu
  simp [c6] at hu
  rcases hu with rfl | rfl | rfl | rfl | rfl | rfl <;> rfl

/-- The i-th 6 of a row of cells. -/
def g6 (css : List Value) (i : Nat) : List Value := (css.drop (i * 6)).take 6
theorem g6_get {css : List Value} {i j : Nat} (hj : j < 6) : (g6 css i)[j]? = css[i * 6 + j]? := by
  unfold g6
  rw [List.getElem?_take_of_lt hj, List.getElem?_drop]
theorem g6_app_left {css cs : List Value} {i : Nat} (h : i * 6 + 6 ≤ css.length) : g6 (css ++ cs) i = g6 css i := by
  unfold g6
  rw [List.drop_append_of_le_length (by omega), List.take_append_of_le_length (by simp; omega)]
theorem g6_app_right {css cs : List Value} {n i : Nat} (h : css.length = n * 6) (hi : n ≤ i) : g6 (css ++ cs) i = g6 cs (i - n) := by
  unfold g6
  rw [List.drop_append, List.drop_eq_nil_of_le (by omega), List.nil_append, show i * 6 - css.length = (i - n) * 6 by omega]
theorem g6_len {css : List Value} {i : Nat} (h : i * 6 + 6 ≤ css.length) : (g6 css i).length = 6 := by
  unfold g6; simp; omega
theorem g6_one {cs : List Value} (h : cs.length = 6) : g6 cs 0 = cs := by
  unfold g6; rw [Nat.zero_mul, List.drop_zero, List.take_of_length_le (by omega)]

/-- A row of them that the call owns; what they reach lies from block s on, and not in the row itself. -/
def ScCs (w : World) (s : Nat) (X : Nat → Prop) (v : Value) (kids : List Sc) : Prop :=
  ∃ css, w.ownsRow s 31 6 v kids.length css ∧ ∀ i (h : i < kids.length), ScC w (fun b => s ≤ b ∧ v.ownBlock ≠ some b ∧ X b) (g6 css i) kids[i]

theorem ScCs.nil (w : World) (s : Nat) (X : Nat → Prop) : ScCs w s X (.slice none 0 0) [] := ⟨[], by simpa using World.ownsRow_nil w s 31 6, fun i h => absurd h (by simp)⟩
theorem ScCs.form {w : World} {s : Nat} {X : Nat → Prop} {v : Value} {kids : List Sc} (h : ScCs w s X v kids) : ∃ K kc, v = .slice K kids.length kc := by
  obtain ⟨css, h, _⟩ := h; exact own_form h
theorem ScCs.keep {w w' : World} {s : Nat} {X : Nat → Prop} {v : Value} {kids : List Sc} (h : ScCs w s X v kids) (hb : ∀ b, s ≤ b → b < w.heap.size → w'.heap[b]? = w.heap[b]?) : ScCs w' s X v kids := by
  obtain ⟨css, h, hk⟩ := h
  exact ⟨css, own_same h fun b hb' => hb b (h.lt b hb').1 (h.lt b hb').2, fun i hi => (hk i hi).mv fun b hb' hl => hb b hb'.1 hl⟩
theorem ScCs.lt {w : World} {s : Nat} {X : Nat → Prop} {v : Value} {kids : List Sc} (h : ScCs w s X v kids) : ∀ k, v.ownBlock = some k → s ≤ k ∧ k < w.heap.size := by
  obtain ⟨css, h, hk⟩ := h; exact h.lt
theorem ScCs.mono {w : World} {s s' : Nat} {X X' : Nat → Prop} {v : Value} {kids : List Sc} (h : ScCs w s X v kids) (hs : s' ≤ s) (hX : ∀ b, s ≤ b → b < w.heap.size → X b → X' b) : ScCs w s' X' v kids := by
  obtain ⟨css, h, hk⟩ := h
  exact ⟨css, own_base h hs, fun i hi => (hk i hi).mono fun b hb hl => ⟨by omega, hb.2.1, hX b hb.1 hl hb.2.2⟩⟩
/-- Some are put behind. -/
theorem ScCs.app {w w' : World} {s : Nat} {X : Nat → Prop} {v v' : Value} {kids ps : List Sc} {css cs : List Value} (hr : w.ownsRow s 31 6 v kids.length css) (hk : ∀ i (h : i < kids.length), ScC w (fun b => s ≤ b ∧ v.ownBlock ≠ some b ∧ X b) (g6 css i) kids[i])
    (hp : ∀ i (h : i < ps.length), ScC w (fun b => s ≤ b ∧ v.ownBlock ≠ some b ∧ X b) (g6 cs i) ps[i]) (ho : w'.ownsRow s 31 6 v' (kids.length + ps.length) (css ++ cs)) (hg : w.grownBy w' v.ownBlock) (hv : v'.ownBlock = v.ownBlock ∨ v'.ownBlock = some w.heap.size) :
    ScCs w' s X v' (kids ++ ps) := by
  have mv : ∀ {c : List Value} {p : Sc}, ScC w (fun b => s ≤ b ∧ v.ownBlock ≠ some b ∧ X b) c p → ScC w' (fun b => s ≤ b ∧ v'.ownBlock ≠ some b ∧ X b) c p := fun h => h.mv' fun b hb hl =>
    ⟨hg.block b hl (fun e => hb.2.1 e.symm), hb.1, by rcases hv with e | e <;> rw [e]; exact hb.2.1; (intro e2; injection e2 with e2; omega), hb.2.2⟩
  have hl := hr.1
  refine ⟨css ++ cs, by rw [List.length_append]; exact ho, fun i hi => ?_⟩
  by_cases hlt : i < kids.length
  · rw [g6_app_left (by rw [hl]; omega), List.getElem_append_left hlt]
    exact mv (hk i hlt)
  · rw [g6_app_right hl (by omega), List.getElem_append_right (by omega)]
    exact mv (hp _ _)
/-- One of one. -/
theorem ScCs.one {w : World} {s : Nat} {X : Nat → Prop} {cs : List Value} {p : Sc} (h : ScC w (fun b => s ≤ b ∧ X b) cs p) (hs : s ≤ w.heap.size) : ScCs (w.alloc (.cells cs.toArray 31)) s X (.slice (some ⟨w.heap.size, 0, none⟩) 1 1) [p] := by
  refine ⟨cs, own_new w 31 6 s 1 cs hs (by rw [h.len]) (by decide), fun i hi => ?_⟩
  obtain rfl : i = 0 := by simpa using hi
  rw [g6_one h.len]
  exact h.mv' fun b hb hl => ⟨Below.heap_alloc w _ b hl, hb.1, fun e => Nat.lt_irrefl w.heap.size (by have e' : some w.heap.size = some b := e; injection e' with e'; omega), hb.2⟩

/-- Two of two. -/
theorem ScCs.two {w : World} {s : Nat} {X : Nat → Prop} {cs cs' : List Value} {p q : Sc} (h : ScC w (fun b => s ≤ b ∧ X b) cs p) (h' : ScC w (fun b => s ≤ b ∧ X b) cs' q) (hs : s ≤ w.heap.size) : ScCs (w.alloc (.cells (cs ++ cs').toArray 31)) s X (.slice (some ⟨w.heap.size, 0, none⟩) 2 2) [p, q] := by
  refine ⟨cs ++ cs', own_new w 31 6 s 2 (cs ++ cs') hs (by rw [List.length_append, h.len, h'.len]) (by decide), fun i hi => ?_⟩
  have mv : ∀ {c : List Value} {r : Sc}, ScC w (fun b => s ≤ b ∧ X b) c r → ScC (w.alloc (.cells (cs ++ cs').toArray 31)) (fun b => s ≤ b ∧ (Value.slice (some ⟨w.heap.size, 0, none⟩) 2 2).ownBlock ≠ some b ∧ X b) c r := fun h => h.mv' fun b hb hl => ⟨Below.heap_alloc w _ b hl, hb.1, fun e => Nat.lt_irrefl w.heap.size (by have e' : some w.heap.size = some b := e; injection e' with e'; omega), hb.2⟩
  have hi2 : i = 0 ∨ i = 1 := by simp at hi; omega
  rcases hi2 with rfl | rfl
  · rw [g6_app_left (by rw [h.len]; omega), g6_one h.len]; exact mv h
  · rw [g6_app_right (n := 1) (by rw [h.len]) (Nat.le_refl _), g6_one h'.len]; exact mv h'

/-- One whose own rows the call owns, too. -/
structure ScCT (w : World) (s : Nat) (ns : List ByteArray) (ms : List Bool) (kids : List Sc) (A M K : Option Addr) (ca ma kc : Nat) : Prop where
  oA : w.ownsRow s 9 1 (.slice A ns.length ca) ns.length (strs ns)
  oM : w.ownsRow s 4 1 (.slice M ms.length ma) ms.length (bols ms)
  ks : ScCs w s (fun b => (Value.slice A ns.length ca).ownBlock ≠ some b ∧ (Value.slice M ms.length ma).ownBlock ≠ some b) (.slice K kids.length kc) kids

section
variable {w w' : World} {s : Nat} {ns : List ByteArray} {ms : List Bool} {kids : List Sc} {A M K : Option Addr} {ca ma kc : Nat}
theorem ScCT.keep (h : ScCT w s ns ms kids A M K ca ma kc) (hb : ∀ b, s ≤ b → b < w.heap.size → w'.heap[b]? = w.heap[b]?) : ScCT w' s ns ms kids A M K ca ma kc :=
  ⟨own_same h.oA fun b hb' => hb b (h.oA.lt b hb').1 (h.oA.lt b hb').2, own_same h.oM fun b hb' => hb b (h.oM.lt b hb').1 (h.oM.lt b hb').2, h.ks.keep hb⟩
theorem ScCT.bare (w : World) (s : Nat) : ScCT w s [] [] [] none none none 0 0 0 :=
  ⟨by simpa [strs, bols] using World.ownsRow_nil w s 9 1, by simpa [strs, bols] using World.ownsRow_nil w s 4 1, ScCs.nil w s _⟩
theorem ScCT.low {s' : Nat} (h : ScCT w s ns ms kids A M K ca ma kc) (hs : s' ≤ s) : ScCT w s' ns ms kids A M K ca ma kc :=
  ⟨own_base h.oA hs, own_base h.oM hs, h.ks.mono hs fun _ _ _ h => h⟩
theorem ScCT.toC (h : ScCT w s ns ms kids A M K ca ma kc) (k mn mx : Int) : ScC w (fun b => s ≤ b) (c6 k mn mx A ns.length ca M ms.length ma K kids.length kc) (.mk k mn mx ns ms kids) := by
  obtain ⟨css, hr, hk⟩ := h.ks
  have rowBlock : ∀ {e : TypeId} {A : Option Addr} {n c : Nat} {xs : List Value}, w.ownsRow s e 1 (.slice A n c) n xs → ∀ x, A = some x → s ≤ x.block := fun h x hx => by
    subst hx; exact (h.lt _ rfl).1
  by_cases h0 : kids = []
  · subst h0
    exact .mk k mn mx ns ms [] A M K ca ma kc 0 0 (fun _ => []) (own_rowN h.oA) (own_rowN h.oM) (fun _ => rowBlock h.oA) (fun _ => rowBlock h.oM) (own_le h.oA) (own_le h.oM) (fun e => (e rfl).elim) (fun i hi => absurd hi (by simp)) (fun i hi => absurd hi (by simp)) (fun i hi => absurd hi (by simp))
  · obtain ⟨g, cap, e, hge, _⟩ := own_some hr (List.length_pos_iff.2 h0)
    injection e with e1 e2 e3
    subst e1 e3
    have hl := hr.1
    refine .mk k mn mx ns ms kids A M _ ca ma kc g 0 (g6 css) (own_rowN h.oA) (own_rowN h.oM) (fun _ => rowBlock h.oA) (fun _ => rowBlock h.oM) (own_le h.oA) (own_le h.oM) (fun _ => ⟨rfl, hge⟩) (fun i hi => g6_len (by rw [hl]; omega)) (fun i hi j u hu => ?_) fun i hi => (hk i hi).mono fun b hb _ => hb.1
    have hj : j < 6 := by
      have := (List.getElem?_eq_some_iff.1 hu).1
      rw [g6_len (by rw [hl]; omega)] at this
      exact this
    rw [g6_get hj] at hu
    rw [Nat.zero_add]
    exact own_cellN hr _ u hu
end

/-- A row of them as what is appended. -/
theorem ScCs.ones {w : World} {s : Nat} {v : Value} {F : Nat → Prop} {kids : List Sc} {css : List Value} (hr : w.ownsRow s 31 6 v kids.length css) (hk : ∀ i (h : i < kids.length), ScC w F (g6 css i) kids[i]) : ∀ u ∈ css, u.oneCell' = true := by
  intro u hu
  obtain ⟨q, hq, rfl⟩ := List.getElem_of_mem hu
  have hl := hr.1
  have h1 : q / 6 < kids.length := by omega
  refine (hk (q / 6) h1).ones _ ?_
  apply List.mem_of_getElem? (i := q % 6)
  rw [g6_get (by omega), show q / 6 * 6 + q % 6 = q by omega]
  exact List.getElem?_eq_getElem hq

/-- One more in the row ns. -/
theorem ScCT.appA {w w' : World} {s : Nat} {ns : List ByteArray} {ms : List Bool} {kids : List Sc} {A M K : Option Addr} {ca ma kc : Nat} {v' : Value} {x : ByteArray} (h : ScCT w s ns ms kids A M K ca ma kc)
    (ho : w'.ownsRow s 9 1 v' (ns.length + 1) (strs ns ++ [.string x])) (hg : w.grownBy w' (Value.slice A ns.length ca).ownBlock) (hv : v'.ownBlock = (Value.slice A ns.length ca).ownBlock ∨ v'.ownBlock = some w.heap.size) :
    ∃ A' ca', v' = .slice A' (ns ++ [x]).length ca' ∧ ScCT w' s (ns ++ [x]) ms kids A' M K ca' ma kc := by
  have e1 : (ns ++ [x]).length = ns.length + 1 := by simp
  rw [← e1] at ho
  obtain ⟨A', ca', rfl⟩ := own_form ho
  obtain ⟨css, hr, hk⟩ := h.ks
  refine ⟨A', ca', rfl, by rw [strs_app]; exact ho, own_same h.oM fun b hb => hg.block b (h.oM.lt b hb).2 (fun e => own_apart h.oA h.oM (by decide) e.symm hb), css, own_same hr fun b hb => hg.block b (hr.lt b hb).2 (fun e => own_apart h.oA hr (by decide) e.symm hb), fun i hi => (hk i hi).mv' fun b hb hl => ⟨hg.block b hl (fun e => hb.2.2.1 e.symm), hb.1, hb.2.1, ⟨(fun e2 => hv.elim (fun e3 => hb.2.2.1 (e3.symm.trans e2)) (fun e3 => by rw [e3] at e2; injection e2 with e2; omega)), hb.2.2.2⟩⟩⟩
/-- One more in the row ms. -/
theorem ScCT.appM {w w' : World} {s : Nat} {ns : List ByteArray} {ms : List Bool} {kids : List Sc} {A M K : Option Addr} {ca ma kc : Nat} {v' : Value} {x : Bool} (h : ScCT w s ns ms kids A M K ca ma kc)
    (ho : w'.ownsRow s 4 1 v' (ms.length + 1) (bols ms ++ [.bool x])) (hg : w.grownBy w' (Value.slice M ms.length ma).ownBlock) (hv : v'.ownBlock = (Value.slice M ms.length ma).ownBlock ∨ v'.ownBlock = some w.heap.size) :
    ∃ M' ma', v' = .slice M' (ms ++ [x]).length ma' ∧ ScCT w' s ns (ms ++ [x]) kids A M' K ca ma' kc := by
  have e1 : (ms ++ [x]).length = ms.length + 1 := by simp
  rw [← e1] at ho
  obtain ⟨M', ma', rfl⟩ := own_form ho
  obtain ⟨css, hr, hk⟩ := h.ks
  refine ⟨M', ma', rfl, own_same h.oA fun b hb => hg.block b (h.oA.lt b hb).2 (fun e => own_apart h.oM h.oA (by decide) e.symm hb), by rw [bols_app]; exact ho, css, own_same hr fun b hb => hg.block b (hr.lt b hb).2 (fun e => own_apart h.oM hr (by decide) e.symm hb), fun i hi => (hk i hi).mv' fun b hb hl => ⟨hg.block b hl (fun e => hb.2.2.2 e.symm), hb.1, hb.2.1, ⟨hb.2.2.1, (fun e2 => hv.elim (fun e3 => hb.2.2.2 (e3.symm.trans e2)) (fun e3 => by rw [e3] at e2; injection e2 with e2; omega))⟩⟩⟩
/-- One that has one kid, or two, and nothing else. -/
theorem ScCT.ofKid {w : World} {s : Nat} {cs : List Value} {p : Sc} (h : ScC w (fun b => s ≤ b) cs p) (hs : s ≤ w.heap.size) : ScCT (w.alloc (.cells cs.toArray 31)) s [] [] [p] none none (some ⟨w.heap.size, 0, none⟩) 0 0 1 :=
  ⟨by simpa [strs, bols] using World.ownsRow_nil _ s 9 1, by simpa [strs, bols] using World.ownsRow_nil _ s 4 1, ScCs.one (h.mono fun b hb _ => ⟨hb, none_block, none_block⟩) hs⟩
theorem ScCT.ofTwo {w : World} {s : Nat} {cs cs' : List Value} {p q : Sc} (h : ScC w (fun b => s ≤ b) cs p) (h' : ScC w (fun b => s ≤ b) cs' q) (hs : s ≤ w.heap.size) : ScCT (w.alloc (.cells (cs ++ cs').toArray 31)) s [] [] [p, q] none none (some ⟨w.heap.size, 0, none⟩) 0 0 2 :=
  ⟨by simpa [strs, bols] using World.ownsRow_nil _ s 9 1, by simpa [strs, bols] using World.ownsRow_nil _ s 4 1, ScCs.two (h.mono fun b hb _ => ⟨hb, none_block, none_block⟩) (h'.mono fun b hb _ => ⟨hb, none_block, none_block⟩) hs⟩
/-- One more kid. -/
theorem ScCT.appK {w w' : World} {s : Nat} {ns : List ByteArray} {ms : List Bool} {kids : List Sc} {A M K : Option Addr} {ca ma kc : Nat} {v' : Value} {p : Sc} {css cs : List Value} (h : ScCT w s ns ms kids A M K ca ma kc)
    (hr : w.ownsRow s 31 6 (.slice K kids.length kc) kids.length css) (hk : ∀ i (h : i < kids.length), ScC w (fun b => s ≤ b ∧ (Value.slice K kids.length kc).ownBlock ≠ some b ∧ ((Value.slice A ns.length ca).ownBlock ≠ some b ∧ (Value.slice M ms.length ma).ownBlock ≠ some b)) (g6 css i) kids[i])
    (hp : ScC w (fun b => s ≤ b ∧ (Value.slice K kids.length kc).ownBlock ≠ some b ∧ ((Value.slice A ns.length ca).ownBlock ≠ some b ∧ (Value.slice M ms.length ma).ownBlock ≠ some b)) cs p)
    (ho : w'.ownsRow s 31 6 v' (kids.length + 1) (css ++ cs)) (hg : w.grownBy w' (Value.slice K kids.length kc).ownBlock) (hv : v'.ownBlock = (Value.slice K kids.length kc).ownBlock ∨ v'.ownBlock = some w.heap.size) :
    ∃ K' kc', v' = .slice K' (kids ++ [p]).length kc' ∧ ScCT w' s ns ms (kids ++ [p]) A M K' ca ma kc' := by
  have hK := ScCs.app (ps := [p]) hr hk (fun i hi => by
    obtain rfl : i = 0 := by simpa using hi
    rw [g6_one hp.len]; exact hp) ho hg hv
  obtain ⟨K', kc', rfl⟩ := hK.form
  exact ⟨K', kc', rfl, own_same h.oA fun b hb => hg.block b (h.oA.lt b hb).2 (fun e => own_apart h.oA hr (by decide) hb e.symm), own_same h.oM fun b hb => hg.block b (h.oM.lt b hb).2 (fun e => own_apart h.oM hr (by decide) hb e.symm), hK⟩

/-- One under way, in block P; w1: the world before it. -/
structure ScCS (w1 : World) (B g N P s : Nat) (cs : List Value) (ns : List ByteArray) (ms : List Bool) (kids : List Sc) (A M K : Option Addr) (ca ma kc : Nat) (w : World) : Prop where
  p : Own w P 31 cs
  t : ScCT w s ns ms kids A M K ca ma kc
  rd : Rd w B g N
  fr : w1.grownBy w (some g)
  hB : B ≤ w1.heap.size
  hP : w1.heap.size ≤ P
  hs : P < s

section
variable {w1 w w' : World} {B g N N' P s : Nat} {cs : List Value} {ns : List ByteArray} {ms : List Bool} {kids : List Sc} {A M K : Option Addr} {ca ma kc : Nat}
theorem ScCS.lt (h : ScCS w1 B g N P s cs ns ms kids A M K ca ma kc w) : P < w.heap.size := h.p.lt
theorem ScCS.g_lt (h : ScCS w1 B g N P s cs ns ms kids A M K ca ma kc w) : g < w1.heap.size := by have := h.rd.ltB; have := h.hB; omega
theorem ScCS.touch (h : ScCS w1 B g N P s cs ns ms kids A M K ca ma kc w) (hg : w.grownBy w' (some g)) (hr : Rd w' B g N') : ScCS w1 B g N' P s cs ns ms kids A M K ca ma kc w' :=
  ⟨own_touch h.p hg (by have := h.g_lt; have := h.hP; omega), h.t.keep fun b hb hl => hg.block b hl (fun e => by injection e with e; have := h.g_lt; have := h.hP; have := h.hs; omega), hr, only_trans h.fr hg, h.hB, h.hP, h.hs⟩
theorem ScCS.alloc (h : ScCS w1 B g N P s cs ns ms kids A M K ca ma kc w) (o : Obj) : ScCS w1 B g N P s cs ns ms kids A M K ca ma kc (w.alloc o) :=
  ⟨h.p.alloc o, h.t.keep fun b hb hl => Below.heap_alloc w o b hl, h.rd.alloc (by have := h.lt; have := h.hB; have := h.hP; omega) o, only_alloc h.fr o, h.hB, h.hP, h.hs⟩
theorem ScCS.drew (h : ScCS w1 B g N P s cs ns ms kids A M K ca ma kc w) : ScCS w1 B g N P s cs ns ms kids A M K ca ma kc w.drew :=
  ⟨h.p.drew, h.t.keep fun _ _ _ => rfl, h.rd.drew, ⟨h.fr.os, h.fr.tape, h.fr.output, h.fr.size, h.fr.block⟩, h.hB, h.hP, h.hs⟩
theorem ScCS.mono (h : ScCS w1 B g N P s cs ns ms kids A M K ca ma kc w) (hN : N ≤ N') : ScCS w1 B g N' P s cs ns ms kids A M K ca ma kc w := ⟨h.p, h.t, h.rd.mono (Nat.le_refl _) hN, h.fr, h.hB, h.hP, h.hs⟩
/-- A cell of it is written. -/
theorem ScCS.set (h : ScCS w1 B g N P s cs ns ms kids A M K ca ma kc w) (i : Nat) (u : Value) : ScCS w1 B g N P s (cs.set i u) ns ms kids A M K ca ma kc (w.setCell ⟨P, i, none⟩ u) :=
  ⟨h.p.set_ i u, h.t.keep fun b hb _ => Below.heap_setCell _ _ _ b (by have := h.hs; show b ≠ P; omega), h.rd.setCell (by have := h.hB; have := h.hP; show B ≤ P; omega) u,
    ⟨h.fr.os, h.fr.tape, h.fr.output, Nat.le_trans h.fr.size (by simp), fun z hz hn => (Below.heap_setCell _ _ _ z (by have := h.hP; show z ≠ P; omega)).trans (h.fr.block z hz hn)⟩, h.hB, h.hP, h.hs⟩
/-- What it owns has changed, in blocks from s on. -/
theorem ScCS.grow {ns' : List ByteArray} {ms' : List Bool} {kids' : List Sc} {A' M' K' : Option Addr} {ca' ma' kc' : Nat} {row : Option Nat} (h : ScCS w1 B g N P s cs ns ms kids A M K ca ma kc w) (hg : w.grownBy w' row) (hr : ∀ k, row = some k → s ≤ k)
    (ht : ScCT w' s ns' ms' kids' A' M' K' ca' ma' kc') : ScCS w1 B g N P s cs ns' ms' kids' A' M' K' ca' ma' kc' w' :=
  ⟨(hg.block _ h.lt (fun e => by have := hr _ e.symm; have := h.hs; omega)).trans h.p, ht, h.rd.grown (by have := h.lt; have := h.hB; have := h.hP; omega) hg (fun k hk => by have := hr k hk; have := h.hB; have := h.hP; have := h.hs; omega), only_new h.fr hg (fun k hk => by have := hr k hk; have := h.hP; have := h.hs; omega), h.hB, h.hP, h.hs⟩
/-- It begins: zero cells in a new block. -/
theorem ScCS.start (hr : Rd w B g N) (hf : w1.grownBy w (some g)) (hB : B ≤ w1.heap.size) (cs : List Value) : ScCS w1 B g N w.heap.size (w.heap.size + 1) cs [] [] [] none none none 0 0 0 (w.alloc (.cells cs.toArray 31)) :=
  ⟨by simpa using Own.new w 31 cs.toArray, ScCT.bare _ _, hr.alloc (by have := hf.size; omega) _, only_alloc hf _, hB, hf.size, Nat.lt_succ_self _⟩
end


end Go.Proofs.YtkhcappjhefkjaaGreatDoor

