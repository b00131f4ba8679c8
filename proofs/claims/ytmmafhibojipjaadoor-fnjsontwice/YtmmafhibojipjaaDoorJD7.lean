/- What the walk of l71Json wants: the value's block behind what the value owns; a value put into a list of itself. -/
import Derived.Test.YtmmafhibojipjaaDoorJD6
namespace Go.Proofs.YtmmafhibojipjaaDoor
open Go.RowKit
set_option linter.unusedVariables false

theorem costS_le (d : Nat) (h : d ≤ 4) : costS d ≤ 2560 := by
  have h4 : d = 0 ∨ d = 1 ∨ d = 2 ∨ d = 3 ∨ d = 4 := by omega
  rcases h4 with rfl | rfl | rfl | rfl | rfl <;> decide
theorem costF_le (d : Nat) (h : d ≤ 4) : costF d ≤ 25920 := by
  have h4 : d = 0 ∨ d = 1 ∨ d = 2 ∨ d = 3 ∨ d = 4 := by omega
  rcases h4 with rfl | rfl | rfl | rfl | rfl <;> decide

/-- A value's cells in the block behind w4; of what was in w4 only the reader's block has turned. -/
structure JJ (w4 : World) (B g N : Nat) (cs : List Value) (w : World) : Prop where
  p : Own w w4.heap.size 26 cs
  rd : Rd w B g N
  fr : w4.grownBy w (some g)
  hB : B ≤ w4.heap.size
section
variable {w4 w w' : World} {B g N N' : Nat} {cs : List Value}
theorem JJ.lt (h : JJ w4 B g N cs w) : w4.heap.size < w.heap.size := h.p.lt
theorem JJ.g_lt (h : JJ w4 B g N cs w) : g < w4.heap.size := by have := h.rd.ltB; have := h.hB; omega
theorem JJ.touch (h : JJ w4 B g N cs w) (hg : w.grownBy w' (some g)) (hr : Rd w' B g N') : JJ w4 B g N' cs w' := ⟨own_touch h.p hg (by have := h.g_lt; omega), hr, only_trans h.fr hg, h.hB⟩
theorem JJ.alloc (h : JJ w4 B g N cs w) (o : Obj) : JJ w4 B g N cs (w.alloc o) := ⟨h.p.alloc o, h.rd.alloc (by have := h.lt; have := h.hB; omega) o, only_alloc h.fr o, h.hB⟩
theorem JJ.drew (h : JJ w4 B g N cs w) : JJ w4 B g N cs w.drew := ⟨h.p.drew, h.rd.drew, ⟨h.fr.os, h.fr.tape, h.fr.output, h.fr.size, h.fr.block⟩, h.hB⟩
theorem JJ.mono (h : JJ w4 B g N cs w) (hN : N ≤ N') : JJ w4 B g N' cs w := ⟨h.p, h.rd.mono (Nat.le_refl _) hN, h.fr, h.hB⟩
theorem JJ.set (h : JJ w4 B g N cs w) (i : Nat) (u : Value) : JJ w4 B g N (cs.set i u) (w.setCell ⟨w4.heap.size, i, none⟩ u) :=
  ⟨h.p.set_ i u, h.rd.setCell (by have := h.hB; show B ≤ w4.heap.size; omega) u, set_grown h.fr (Nat.le_refl _) u, h.hB⟩
theorem JJ.start (hr : Rd w4 B g N) (hB : B ≤ w4.heap.size) (cs : List Value) : JJ w4 B g N cs (w4.alloc (.cells cs.toArray 26)) :=
  ⟨by simpa using Own.new w4 26 cs.toArray, hr.alloc hB _, only_alloc (only_of_below (Below.refl _ _) (Nat.le_refl _) _) _, hB⟩
/-- What the value owned where its block was made, it owns still. -/
theorem JJ.owned {s : Nat} {ns : List ByteArray} {kids : List Js} {A K : Option Addr} {ca kc : Nat} (h : JJ w4 B g N cs w) (ht : JsCT w4 s ns kids A K ca kc) (hs : g < s) : JsCT w s ns kids A K ca kc := ht.touch h.fr hs
end

/-- A value, its cells in a new block, as the one element of a list. -/
theorem JsC.wrap {w : World} {F : Nat → Prop} {cs : List Value} {p : Js} (h : JsC w F cs p) (hF : F w.heap.size) :
    JsC (w.alloc (.cells cs.toArray 26)) F (c5 5 false ⟨#[]⟩ none 0 0 (some ⟨w.heap.size, 0, none⟩) 1 1) (.mk 5 false ⟨#[]⟩ [] [p]) := by
  refine JsC.mk 5 false ⟨#[]⟩ [] [p] none (some ⟨w.heap.size, 0, none⟩) 0 1 w.heap.size 0 (fun _ => cs) (.inl rfl) (fun h0 => absurd rfl h0) (Nat.le_refl _) (fun _ => ⟨rfl, hF⟩) (fun i hi => h.len) (fun i hi j u hu => ?_) (fun i hi => ?_)
  · obtain rfl : i = 0 := by simpa using hi
    rw [Nat.zero_mul, Nat.zero_add, (Own.new w 26 cs.toArray).cell]
    simpa using hu
  · obtain rfl : i = 0 := by simpa using hi
    exact h.mv fun b _ hl => Below.heap_alloc w _ b hl
/-- The value as the laws want it. -/
theorem JsC.jsV {w : World} {F : Nat → Prop} {k : Int} {f : Bool} {t : ByteArray} {ns : List ByteArray} {kids : List Js} {A K : Option Addr} {ca kc : Nat} (h : JsC w F (c5 k f t A ns.length ca K kids.length kc) (.mk k f t ns kids)) : JsV w 0 ns kids A K ∧ ns.length ≤ ca := by
  generalize hcs : c5 k f t A ns.length ca K kids.length kc = cs at h
  generalize hp : Js.mk k f t ns kids = p at h
  cases h with
  | mk k0 f0 t0 ns0 kids0 A0 K0 ca0 kc0 kb ko css hA lA eA hK hl hc hk =>
    injection hp with _ _ _ e1 e2
    subst e1 e2
    simp only [c5, List.cons.injEq, Value.slice.injEq, and_true, true_and] at hcs
    obtain ⟨_, _, _, ⟨rfl, rfl⟩, rfl, _⟩ := hcs
    exact ⟨⟨hA, ⟨kb, ko, fun h0 => (hK h0).1, fun i hi => (hk i hi).jsAt fun j u hu => hc i hi j u hu⟩, fun _ _ => Nat.zero_le _⟩, eA⟩

/-- Where the ways of the switch meet: the cells of the value and those of the answer. -/
structure CJ (w0 : World) (r p B g N : Nat) (rs cs : List Value) (w : World) : Prop where
  p : Own w p 26 cs
  r : Own w r 26 rs
  rd : Rd w B g N
  fr : w0.grownBy w (some g)
theorem JJ.cut {w0 w4 w : World} {r B g N : Nat} {rs cs : List Value} (h : JJ w4 B g N cs w) (hr : Own w4 r 26 rs) (hne : r ≠ g) (h0 : w0.grownBy w4 (some g)) : CJ w0 r w4.heap.size B g N rs cs w :=
  ⟨h.p, (h.fr.block _ hr.lt (fun e => hne (by injection e))).trans hr, h.rd, only_trans h0 h.fr⟩
theorem CJ.mono {w0 w : World} {r p B g N N' : Nat} {rs cs : List Value} (h : CJ w0 r p B g N rs cs w) (hN : N ≤ N') : CJ w0 r p B g N' rs cs w := ⟨h.p, h.r, h.rd.mono (Nat.le_refl _) hN, h.fr⟩

theorem CJ.set {w0 w : World} {r p B g N : Nat} {rs cs : List Value} (h : CJ w0 r p B g N rs cs w) (hrp : r ≠ p) (hB : B ≤ p) (h0 : w0.heap.size ≤ p) (i : Nat) (u : Value) : CJ w0 r p B g N rs (cs.set i u) (w.setCell ⟨p, i, none⟩ u) :=
  ⟨h.p.set_ i u, (Below.heap_setCell _ _ _ r hrp).trans h.r, h.rd.setCell (by show B ≤ p; exact hB) u, set_grown h.fr h0 u⟩
/-- Behind an append to a row that lies between the answer's block and the value's. -/
theorem JJ.appended {w0 w4 w w9 : World} {r s B g N : Nat} {rs cs : List Value} {row : Option Nat} (h : JJ w4 B g N cs w) (hg : w.grownBy w9 row) (hrow : ∀ b, row = some b → s ≤ b ∧ b < w4.heap.size) (hgs : g < s) (hBs : B ≤ s) (hrs : r < s) (h0s : w0.heap.size ≤ s) (hs4 : s ≤ w4.heap.size)
    (hr : Own w4 r 26 rs) (hne : r ≠ g) (h0 : w0.grownBy w4 (some g)) : CJ w0 r w4.heap.size B g N rs cs w9 := by
  have hl := h.lt
  have hc := h.cut hr hne h0
  refine ⟨(hg.block _ hl (fun e => by have := hrow _ e.symm; omega)).trans hc.p, (hg.block _ (by omega) (fun e => by have := hrow _ e.symm; omega)).trans hc.r, hc.rd.keep fun z hz => hg.block z (by omega) (fun e => by have := hrow _ e.symm; omega), only_new hc.fr hg fun b e => by have := hrow b e; omega⟩

theorem JJ.grew {w4 w w' : World} {B g N : Nat} {cs : List Value} (h : JJ w4 B g N cs w) (hg : w.grownBy w' none) : JJ w4 B g N cs w' := by
  have hl := h.lt
  have hB := h.hB
  exact ⟨(hg.block _ hl (by simp)).trans h.p, h.rd.keep fun z hz => hg.block z (by omega) (by simp), only_new h.fr hg (fun b e => by cases e), hB⟩
theorem JJ.far {w4 w : World} {B g N M : Nat} {cs : List Value} (h : JJ w4 B g N cs w) (hM : w4.heap.size < M) (i : Nat) (u : Value) : JJ w4 B g N cs (w.setCell ⟨M, i, none⟩ u) := by
  have hB := h.hB
  exact ⟨(Below.heap_setCell _ _ _ _ (by show w4.heap.size ≠ M; omega)).trans h.p, h.rd.setCell (by show B ≤ M; omega) u, set_grown h.fr (by omega) u, hB⟩

/-- One more name, where the value was drawn in w4: behind it other blocks may have come. -/
theorem JsCT.appName {w4 w9 : World} {s m : Nat} {ns : List ByteArray} {kids : List Js} {A K : Option Addr} {ca kc : Nat} {v' : Value} {x : ByteArray} (h4 : JsCT w4 s ns kids A K ca kc)
    (hg : ∀ b, b < w4.heap.size → (Value.slice A ns.length ca).ownBlock ≠ some b → s ≤ b → w9.heap[b]? = w4.heap[b]?)
    (ho : w9.ownsRow s 9 1 v' (ns.length + 1) (strs ns ++ [.string x])) (hv : v'.ownBlock = (Value.slice A ns.length ca).ownBlock ∨ v'.ownBlock = some m) (hm : w4.heap.size < m) :
    ∃ A' ca', v' = .slice A' (ns ++ [x]).length ca' ∧ ∀ k f t, JsC w9 (fun b => s ≤ b ∧ b ≠ w4.heap.size) (c5 k f t A' (ns ++ [x]).length ca' K kids.length kc) (.mk k f t (ns ++ [x]) kids) := by
  have e1 : (ns ++ [x]).length = ns.length + 1 := by simp
  rw [← e1] at ho
  obtain ⟨A', ca', rfl⟩ := own_form ho
  refine ⟨A', ca', rfl, fun k f t => ?_⟩
  obtain ⟨css, hr, hk⟩ := h4.ks
  have lA : ∀ y, A' = some y → s ≤ y.block ∧ y.block ≠ w4.heap.size := fun y hy => by
    subst hy
    refine ⟨(ho.lt _ rfl).1, fun e => ?_⟩
    rcases hv with h | h
    · have := (h4.oA.lt _ h.symm).2; omega
    · have h' : some y.block = some m := h
      injection h' with h'; omega
  have hA : Row w9 A' (strs (ns ++ [x])) := own_rowN (by rw [strs_app]; exact ho)
  by_cases h0 : kids = []
  · subst h0
    exact .mk k f t (ns ++ [x]) [] A' K ca' kc 0 0 (fun _ => []) hA (fun _ => lA) (own_le ho) (fun e => (e rfl).elim) (fun i hi => absurd hi (by simp)) (fun i hi => absurd hi (by simp)) (fun i hi => absurd hi (by simp))
  · obtain ⟨g, cap, e, hge, _⟩ := own_some hr (List.length_pos_iff.2 h0)
    injection e with e1 e2 e3
    subst e1 e3
    have hl := hr.1
    have hgl := (hr.lt g rfl).2
    have hgA : (Value.slice A ns.length ca).ownBlock ≠ some g := fun e => own_apart h4.oA hr (by decide) e rfl
    refine .mk k f t (ns ++ [x]) kids A' _ ca' kc g 0 (g5 css) hA (fun _ => lA) (own_le ho) (fun _ => ⟨rfl, hge, by omega⟩) (fun i hi => g5_len (by rw [hl]; omega)) (fun i hi j u hu => ?_) fun i hi => (hk i hi).mv' fun b hb hlt => ⟨hg b hlt hb.2.2 hb.1, hb.1, by omega⟩
    have hj : j < 5 := by
      have := (List.getElem?_eq_some_iff.1 hu).1
      rw [g5_len (by rw [hl]; omega)] at this
      exact this
    rw [g5_get hj] at hu
    rw [Nat.zero_add, World.cell?_of_block (w := w4) (hg g hgl hgA hge)]
    exact own_cellN hr _ u hu

/-- A row of n values of which the first i are null and the others zero. -/
structure Null5 (n i : Nat) (L : List Value) : Prop where
  len : L.length = n * 5
  cell : ∀ q j u, q < n → (c5 (if q < i then 1 else 0) false ⟨#[]⟩ none 0 0 none 0 0)[j]? = some u → L[q * 5 + j]? = some u
theorem made5_get {z : Array Value} {n q j : Nat} (hz : z.size = 5) (hq : q < n) (hj : j < 5) : (madeCells z (n * 5)).toList[q * 5 + j]? = z[j]? := by
  have h1 : q * 5 + j < n * 5 := by omega
  have h2 : (q * 5 + j) % 5 = j := by omega
  have h3 : j < z.size := by omega
  rw [Array.getElem?_toList]
  simp [madeCells, h1, hz, h2, h3]
  rw [getElem!_pos z j h3, Array.getElem?_eq_getElem h3]
theorem Null5.start (n : Nat) : Null5 n 0 (madeCells #[.int .i64 0, .bool false, .string ⟨#[]⟩, .slice none 0 0, .slice none 0 0] (n * 5)).toList := by
  refine ⟨by simp [size_madeCells], fun q j u hq hu => ?_⟩
  have hj : j < 5 := (List.getElem?_eq_some_iff.1 hu).1
  rw [made5_get rfl hq hj, ← hu]
  simp [c5]
theorem Null5.next {n i : Nat} {L : List Value} (h : Null5 n i L) (hi : i < n) : Null5 n (i + 1) (L.set (i * 5) (.int .i64 1)) := by
  have hl := h.len
  refine ⟨by simp [hl], fun q j u hq hu => ?_⟩
  have hj : j < 5 := (List.getElem?_eq_some_iff.1 hu).1
  by_cases hqi : q = i
  · subst hqi
    rw [if_pos (by omega)] at hu
    by_cases h0 : j = 0
    · subst h0
      simp [c5] at hu
      subst hu
      rw [Nat.add_zero, List.getElem?_set_self (by omega)]
    · rw [List.getElem?_set_ne (by omega)]
      refine h.cell q j u hq ?_
      rw [← hu]
      have h4 : j = 1 ∨ j = 2 ∨ j = 3 ∨ j = 4 := by omega
      rcases h4 with rfl | rfl | rfl | rfl <;> rfl
  · rw [List.getElem?_set_ne (by omega)]
    refine h.cell q j u hq ?_
    by_cases hlt : q < i
    · rw [if_pos hlt]; rwa [if_pos (by omega)] at hu
    · rw [if_neg hlt]; rwa [if_neg (by omega)] at hu
theorem Null5.jsC {w : World} {F : Nat → Prop} {M n i : Nat} {L : List Value} (h : Null5 n i L) (hi : n ≤ i) (ho : Own w M 26 L) (hF : F M) {kids : List Js} (hk : kids = List.replicate n (.mk 1 false ⟨#[]⟩ [] [])) :
    JsC w F (c5 5 false ⟨#[]⟩ none 0 0 (some ⟨M, 0, none⟩) kids.length n) (.mk 5 false ⟨#[]⟩ [] kids) := by
  have hkl : kids.length = n := by rw [hk]; simp
  refine JsC.mk 5 false ⟨#[]⟩ [] kids none (some ⟨M, 0, none⟩) 0 n M 0 (fun _ => c5 1 false ⟨#[]⟩ none 0 0 none 0 0) (.inl rfl) (fun h0 => absurd rfl h0) (Nat.le_refl _) (fun _ => ⟨rfl, hF⟩) (fun _ _ => rfl) (fun q hq j u hu => ?_) (fun q hq => ?_)
  · rw [ho.cell, Nat.zero_add]
    refine h.cell q j u (by omega) ?_
    rw [if_pos (by omega)]
    exact hu
  · have e : kids[q] = .mk 1 false ⟨#[]⟩ [] [] := by subst hk; simp
    rw [e]
    exact JsC.mk 1 false ⟨#[]⟩ [] [] none none 0 0 0 0 (fun _ => []) (.inl rfl) (fun h0 => absurd rfl h0) (Nat.le_refl _) (fun h0 => absurd rfl h0) (fun i hi => absurd hi (by simp)) (fun i hi => absurd hi (by simp)) (fun i hi => absurd hi (by simp))

end Go.Proofs.YtmmafhibojipjaaDoor
