/- Productions that were drawn: what a spoiling leaves of them in memory. No condition. -/
import Derived.Test.YtkgiklmdpdakbaaZ17
import Derived.Test.YtkgiklmdpdakbaaY6
namespace Go.Proofs.Ytkgiklmdpdakbaa
open Go.RowKit
set_option linter.unusedVariables false

/-- Productions in memory that nobody writes any more. -/
structure DC (w : World) (base : Nat) (A : Option Addr) (cap : Nat) (xs : List Pv) : Prop where
  r : Row w A (pvCells xs)
  b : Bodies w xs
  n : xs.length ≤ 1000
  l : ∀ x ∈ xs, x.p.body.length ≤ 1000
  c : xs.length ≤ cap
  g : ∀ a, A = some a → base ≤ a.block
  gb : ∀ x ∈ xs, ∀ a, x.K = some a → base ≤ a.block
theorem DC.keep {w w' : World} {base : Nat} {A : Option Addr} {cap : Nat} {xs : List Pv} (h : DC w base A cap xs) (hb : Below w.heap.size w w') : DC w' base A cap xs := ⟨h.r.keep hb, h.b.keep hb, h.n, h.l, h.c, h.g, h.gb⟩
theorem Row.mv {w w' : World} {base : Nat} {A : Option Addr} {xs : List Value} (h : Row w A xs) (hA : ∀ a, A = some a → base ≤ a.block) (hk : ∀ k, base ≤ k → w'.heap[k]? = w.heap[k]?) : Row w' A xs := by
  rcases h with h | ⟨b, off, e, h⟩
  · exact .inl h
  · exact .inr ⟨b, off, e, fun i hi => by rw [World.cell?_of_block (w := w) (hk b (hA _ e))]; exact h i hi⟩
/-- What keeps the blocks from base on keeps the productions. -/
theorem DC.mv {w w' : World} {base : Nat} {A : Option Addr} {cap : Nat} {xs : List Pv} (h : DC w base A cap xs) (hk : ∀ k, base ≤ k → w'.heap[k]? = w.heap[k]?) : DC w' base A cap xs :=
  ⟨h.r.mv h.g hk, fun x hx => ((h.b x hx).row.mv (h.gb x hx) hk).syms, h.n, h.l, h.c, h.g, h.gb⟩
theorem OG.dc {w : World} {base cap : Nat} {A : Option Addr} {xs : List Pv} (h : OG w base A cap xs) (hn : xs.length ≤ 1000) (hl : ∀ x ∈ xs, x.p.body.length ≤ 1000) : DC w base A cap xs := by
  refine ⟨own_rowN h.o, fun x hx => ?_, hn, hl, ?_, fun a e => ?_, fun x hx a e => ?_⟩
  · obtain ⟨i, hi, rfl⟩ := List.getElem_of_mem hx
    exact (own_rowN (h.d i hi)).syms
  · rcases h.o.2 with ⟨e, h0⟩ | ⟨g, cp, cur, e, _, _, h3⟩
    · injection e with _ _ e3
      omega
    · injection e with _ _ e3
      subst e3
      rcases h3 with ⟨h4, _⟩
      exact h4
  · subst e
    exact (h.o.lt a.block rfl).1
  · obtain ⟨i, hi, rfl⟩ := List.getElem_of_mem hx
    exact ((h.d i hi).lt a.block (by unfold Pv.sl; rw [e]; rfl)).1
/-- One production is put in another's place. -/
theorem OG.set_ {w w1 : World} {base g cap j : Nat} {xs : List Pv} {x' : Pv} (h : OG w base (some ⟨g, 0, none⟩) cap xs) (hj : j < xs.length) (hn : xs.length ≤ 1000) (hl : ∀ x ∈ xs, x.p.body.length ≤ 999) (hl' : x'.p.body.length ≤ 1000)
    (hr : Row w1 (some ⟨g, 0, none⟩) (pvCells (xs.set j x'))) (hs : Syms w1 x'.K x'.p.body) (hd : ∀ i (hi : i < xs.length), i ≠ j → ∀ b, xs[i].sl.ownBlock = some b → w1.heap[b]? = w.heap[b]?) (hK : ∀ a, x'.K = some a → base ≤ a.block) : DC w1 base (some ⟨g, 0, none⟩) cap (xs.set j x') := by
  have hc := h.dc hn (fun x hx => by have := hl x hx; omega)
  refine ⟨hr, fun x hx => ?_, by simpa using hn, fun x hx => ?_, by simpa using hc.c, hc.g, fun x hx => ?_⟩
  · obtain ⟨i, hi, rfl⟩ := List.getElem_of_mem hx
    by_cases e : j = i
    · subst e
      simpa using hs
    · rw [List.getElem_set_ne e]
      have hi' : i < xs.length := by simpa using hi
      exact (own_rowN (row_of (h.d i hi') (fun b cur hb _ _ => hd i hi' (fun e' => e e'.symm) b hb))).syms
  · rcases List.mem_or_eq_of_mem_set hx with h1 | rfl
    · have := hl x h1
      omega
    · exact hl'
  · rcases List.mem_or_eq_of_mem_set hx with h1 | rfl
    · exact hc.gb x h1
    · exact hK
theorem pv_head {xs : List Pv} {j : Nat} (hj : j < xs.length) (h : Int) : (pvCells xs).set (j * 2) (.int .i64 h) = pvCells (xs.set j ⟨⟨h, xs[j].p.body⟩, xs[j].K, xs[j].kc⟩) := by
  rw [← pvCells_set xs ⟨⟨h, xs[j].p.body⟩, xs[j].K, xs[j].kc⟩ j hj]
  have h1 := (pvCells_get xs j hj).2
  have h2 : ((pvCells xs).set (j * 2) (.int .i64 h))[j * 2 + 1]? = some xs[j].sl := by rw [List.getElem?_set_ne (by omega)]; exact h1
  obtain ⟨h3, h4⟩ := List.getElem?_eq_some_iff.1 h2
  exact (by rw [show (⟨⟨h, xs[j].p.body⟩, xs[j].K, xs[j].kc⟩ : Pv).sl = ((pvCells xs).set (j * 2) (.int .i64 h))[j * 2 + 1] from h4.symm]; exact (List.set_getElem_self h3).symm)
theorem pv_body {xs : List Pv} {j : Nat} (hj : j < xs.length) (b : List Sy) (K : Option Addr) (kc : Nat) : (pvCells xs).set (j * 2 + 1) (.slice K b.length kc) = pvCells (xs.set j ⟨⟨xs[j].p.head, b⟩, K, kc⟩) := by
  rw [← pvCells_set xs ⟨⟨xs[j].p.head, b⟩, K, kc⟩ j hj]
  have h1 := (pvCells_get xs j hj).1
  obtain ⟨h3, h4⟩ := List.getElem?_eq_some_iff.1 h1
  have e3 : (pvCells xs).set (j * 2) (.int .i64 xs[j].p.head) = pvCells xs := by
    rw [← h4]
    exact List.set_getElem_self h3
  show _ = ((pvCells xs).set (j * 2) (.int .i64 xs[j].p.head)).set (j * 2 + 1) _
  rw [e3]
  rfl
/-- Another head. -/
theorem OG.dcHead {w : World} {base g cap j : Nat} {xs : List Pv} (h : OG w base (some ⟨g, 0, none⟩) cap xs) (hj : j < xs.length) (hn : xs.length ≤ 1000) (hl : ∀ x ∈ xs, x.p.body.length ≤ 999) (hd : Int) :
    DC (w.setCell ⟨g, j * 2, none⟩ (.int .i64 hd)) base (some ⟨g, 0, none⟩) cap (xs.set j ⟨⟨hd, xs[j].p.body⟩, xs[j].K, xs[j].kc⟩) := by
  have hne : ∀ i (hi : i < xs.length) b, xs[i].sl.ownBlock = some b → b ≠ g := fun i hi b hb e => own_ne h.o (h.d i hi) (by decide) g rfl (by rw [hb, e])
  have hs := own_setN h.o (j * 2) (by omega) (.int .i64 hd)
  rw [pv_head hj] at hs
  have hb := hl _ (List.getElem_mem hj)
  exact h.set_ hj hn hl (by simp only; omega) (own_rowN hs) (own_rowN (row_of (h.d j hj) (fun b cur hb' _ _ => Below.heap_setCell w _ _ b (hne j hj b hb')))).syms (fun i hi _ b hb' => Below.heap_setCell w _ _ b (hne i hi b hb')) (fun a e => ((h.d j hj).lt a.block (by unfold Pv.sl; rw [show xs[j].K = some a from e]; rfl)).1)
/-- Another body. -/
theorem OG.dcBody {w : World} {base g cap j : Nat} {xs : List Pv} (h : OG w base (some ⟨g, 0, none⟩) cap xs) (hj : j < xs.length) (hn : xs.length ≤ 1000) (hl : ∀ x ∈ xs, x.p.body.length ≤ 999) (b : List Sy) (K : Option Addr) (kc : Nat) (hb : b.length ≤ 1000)
    (hs : w.ownsRow base 49 3 (.slice K b.length kc) b.length (symCells b)) :
    DC (w.setCell ⟨g, j * 2 + 1, none⟩ (.slice K b.length kc)) base (some ⟨g, 0, none⟩) cap (xs.set j ⟨⟨xs[j].p.head, b⟩, K, kc⟩) := by
  have hne : ∀ i (hi : i < xs.length) b, xs[i].sl.ownBlock = some b → b ≠ g := fun i hi b hb e => own_ne h.o (h.d i hi) (by decide) g rfl (by rw [hb, e])
  have hr := own_setN h.o (j * 2 + 1) (by omega) (.slice K b.length kc)
  rw [pv_body hj] at hr
  exact h.set_ hj hn hl hb (own_rowN hr) (own_rowN (row_of hs (fun q cur hq _ _ => Below.heap_setCell w _ _ q (fun e => own_ne h.o hs (by decide) g rfl (by rw [hq, e]))))).syms (fun i hi _ q hq => Below.heap_setCell w _ _ q (hne i hi q hq)) (fun a e => (hs.lt a.block (by rw [show K = some a from e]; rfl)).1)

end Go.Proofs.Ytkgiklmdpdakbaa

/- Productions are drawn: what l71Cfg has in memory. No condition. -/
namespace Go.Proofs.Ytkgiklmdpdakbaa
open Go.RowKit
set_option linter.unusedVariables false

/-- A draw of productions under way: the value in block cb, the reader in block g. -/
structure CD (w0 : World) (B g N cb : Nat) (hd : Int) (A : Option Addr) (cap : Nat) (xs : List Pv) (w : World) : Prop where
  o : Own w cb 25 [.int .i64 hd, .slice A xs.length cap]
  r : Own w w0.heap.size 25 [.int .i64 0, .slice none 0 0]
  p : OG w (w0.heap.size + 1) A cap xs
  rd : Rd w B g N
  fr : w0.grownBy w (some g)
  cb : w0.heap.size < cb
  hB : B ≤ w0.heap.size
/-- A draw of productions that is done. -/
def CfgDrawn (w0 : World) (B g N : Nat) (e : Ending) (w' : World) : Prop :=
  ∃ (hd : Int) (A : Option Addr) (cap : Nat) (xs : List Pv), e = .returned (.agg #[.int .i64 hd, .slice A xs.length cap]) ∧ DC w' (w0.heap.size + 1) A cap xs ∧ Rd w' B g N ∧ w0.grownBy w' (some g)

section
variable {w0 w w' : World} {B g N N' cb cap : Nat} {hd : Int} {A : Option Addr} {xs : List Pv}
theorem CD.g_lt (h : CD w0 B g N cb hd A cap xs w) : g < w0.heap.size := by have := h.rd.ltB; have := h.hB; omega
theorem grown_trans {a b c : World} {g : Nat} (h : a.grownBy b (some g)) (h' : b.grownBy c (some g)) : a.grownBy c (some g) :=
  ⟨h'.os.trans h.os, h'.tape.trans h.tape, h'.output.trans h.output, Nat.le_trans h.size h'.size, fun k hk hne => (h'.block k (Nat.lt_of_lt_of_le hk h.size) hne).trans (h.block k hk hne)⟩
theorem grown_below {a b c : World} {g : Nat} (h : a.grownBy b (some g)) (h' : Below b.heap.size b c) : a.grownBy c (some g) :=
  ⟨h'.os.trans h.os, h'.tape.trans h.tape, h'.output.trans h.output, Nat.le_trans h.size h'.size, fun k hk hne => (h'.block k (Nat.lt_of_lt_of_le hk h.size)).trans (h.block k hk hne)⟩
theorem OG.same {base : Nat} (h : OG w base A cap xs) (hb : ∀ b, base ≤ b → b < w.heap.size → w'.heap[b]? = w.heap[b]?) : OG w' base A cap xs :=
  ⟨row_of h.o (fun b cur hv hc hl => hb b hl (Array.getElem?_eq_some_iff.1 hc).1), fun i hi => row_of (h.d i hi) (fun b cur hv hc hl => hb b hl (Array.getElem?_eq_some_iff.1 hc).1), h.ap⟩
/-- The reader went on. -/
theorem CD.touch (h : CD w0 B g N cb hd A cap xs w) (hg : w.grownBy w' (some g)) (hr : Rd w' B g N') : CD w0 B g N' cb hd A cap xs w' := by
  have hgl := h.g_lt
  have hcb := h.cb
  refine ⟨own_touch h.o hg (by omega), own_touch h.r hg (by omega), h.p.same (fun b hb hl => hg.block b hl (fun e => by injection e with e; omega)), hr, grown_trans h.fr hg, h.cb, h.hB⟩
theorem CD.keep (h : CD w0 B g N cb hd A cap xs w) (hb : Below w.heap.size w w') : CD w0 B g N cb hd A cap xs w' :=
  ⟨h.o.keep hb, h.r.keep hb, h.p.keep hb, h.rd.below (hb.mono (by have := h.hB; have := h.fr.size; omega)), grown_below h.fr hb, h.cb, h.hB⟩
/-- What a return makes of the answer's box. -/
theorem done_box (hr : Own w w0.heap.size 25 [.int .i64 0, .slice none 0 0]) (hrd : Rd w B g N) (hfr : w0.grownBy w (some g)) (hB : B ≤ w0.heap.size) (hdc : DC w (w0.heap.size + 1) A cap xs) :
    CfgDrawn w0 B g N (.returned (.agg #[.int .i64 hd, .slice A xs.length cap])) ((w.setCell ⟨w0.heap.size, 0, none⟩ (.int .i64 hd)).setCell ⟨w0.heap.size, 1, none⟩ (.slice A xs.length cap)) := by
  have far : ∀ k, k ≠ w0.heap.size → ((w.setCell ⟨w0.heap.size, 0, none⟩ (.int .i64 hd)).setCell ⟨w0.heap.size, 1, none⟩ (.slice A xs.length cap)).heap[k]? = w.heap[k]? := fun k hk => (Below.heap_setCell _ _ _ k hk).trans (Below.heap_setCell _ _ _ k hk)
  refine ⟨hd, A, cap, xs, rfl, hdc.mv (fun k hk => far k (by omega)), hrd.keep (fun k hk => far k (by omega)), hfr.os, hfr.tape, hfr.output, by simp; exact hfr.size, fun k hk hne => (far k (by omega)).trans (hfr.block k hk hne)⟩
theorem CD.small (h : CD w0 B g N cb hd A cap xs w) (hn : xs.length ≤ 1000) (hl : ∀ x ∈ xs, x.p.body.length ≤ 999) :
    CfgDrawn w0 B g N (.returned (.agg #[.int .i64 hd, .slice A xs.length cap])) ((w.setCell ⟨w0.heap.size, 0, none⟩ (.int .i64 hd)).setCell ⟨w0.heap.size, 1, none⟩ (.slice A xs.length cap)) :=
  done_box h.r h.rd h.fr h.hB (h.p.dc hn fun x hx => by have := hl x hx; omega)
theorem CfgDrawn.mono {e : Ending} (h : CfgDrawn w0 B g N e w) (hN : N ≤ N') : CfgDrawn w0 B g N' e w := by
  obtain ⟨hd, A, cap, xs, he, hdc, hrd, hfr⟩ := h
  exact ⟨hd, A, cap, xs, he, hdc, hrd.mono (Nat.le_refl _) hN, hfr⟩
end

end Go.Proofs.Ytkgiklmdpdakbaa

/- A body of one's own productions grows by a symbol. -/
namespace Go.Proofs.Ytkgiklmdpdakbaa
open Go.RowKit
set_option linter.unusedVariables false

theorem own_grown {w w' : World} {b : Nat} {q : Option Nat} {t : TypeId} {xs : List Value} (h : Own w b t xs) (hg : w.grownBy w' q) (hne : q ≠ some b) : Own w' b t xs :=
  (hg.block b h.lt (fun e => hne (by first | exact e | exact e.symm))).trans h

theorem OG.dcApp {w w2 : World} {base g cap j kc' : Nat} {K' : Option Addr} {xs : List Pv} (h : OG w base (some ⟨g, 0, none⟩) cap xs) (hj : j < xs.length) (hn : xs.length ≤ 1000) (hl : ∀ x ∈ xs, x.p.body.length ≤ 999) (s : Sy)
    (hs : w2.ownsRow base 49 3 (.slice K' (xs[j].p.body ++ [s]).length kc') (xs[j].p.body ++ [s]).length (symCells (xs[j].p.body ++ [s]))) (hg : w.grownBy w2 xs[j].sl.ownBlock) :
    DC (w2.setCell ⟨g, j * 2 + 1, none⟩ (.slice K' (xs[j].p.body ++ [s]).length kc')) base (some ⟨g, 0, none⟩) cap (xs.set j ⟨⟨xs[j].p.head, xs[j].p.body ++ [s]⟩, K', kc'⟩) := by
  have hne : ∀ i (hi : i < xs.length) b, xs[i].sl.ownBlock = some b → b ≠ g := fun i hi b hb e => own_ne h.o (h.d i hi) (by decide) g rfl (by rw [hb, e])
  have ho2 := row_of h.o (fun b cur hb hc hl => hg.block b (Array.getElem?_eq_some_iff.1 hc).1 (fun e => own_ne h.o (h.d j hj) (by decide) b hb (by first | exact e | exact e.symm)))
  have hr := own_setN ho2 (j * 2 + 1) (by omega) (.slice K' (xs[j].p.body ++ [s]).length kc')
  rw [pv_body hj] at hr
  have hb := hl _ (List.getElem_mem hj)
  exact h.set_ hj hn hl (by simp only [List.length_append, List.length_singleton]; omega) (own_rowN hr) (own_rowN (row_of hs (fun q cur hq _ _ => Below.heap_setCell w2 _ _ q (fun e => own_ne ho2 hs (by decide) g rfl (by rw [hq, e]))))).syms
    (fun i hi hij q hq => (Below.heap_setCell w2 _ _ q (hne i hi q hq)).trans (hg.block q ((h.d i hi).lt q hq).2 (fun e => h.ap i j hi hj hij q hq (by first | exact e | exact e.symm)))) (fun a e => (hs.lt a.block (by rw [show K' = some a from e]; rfl)).1)

theorem OG.dcApp' {w w2 : World} {base g cap j kc' : Nat} {K' : Option Addr} {xs : List Pv} (h : OG w base (some ⟨g, 0, none⟩) cap xs) (hj : j < xs.length) (hn : xs.length ≤ 1000) (hl : ∀ x ∈ xs, x.p.body.length ≤ 999) (s : Sy)
    (hs : w2.ownsRow base 49 3 (.slice K' (xs[j].p.body.length + 1) kc') (xs[j].p.body.length + 1) (symCells xs[j].p.body ++ [.int .i64 s.head, .int .i64 s.low, .int .i64 s.high])) (hg : w.grownBy w2 xs[j].sl.ownBlock) :
    ∃ x' : Pv, DC (w2.setCell ⟨g, j * 2 + 1, none⟩ (.slice K' (xs[j].p.body.length + 1) kc')) base (some ⟨g, 0, none⟩) cap (xs.set j x') := by
  have el : (xs[j].p.body ++ [s]).length = xs[j].p.body.length + 1 := by simp
  have ec : symCells (xs[j].p.body ++ [s]) = symCells xs[j].p.body ++ [.int .i64 s.head, .int .i64 s.low, .int .i64 s.high] := by rw [symCells_append]; rfl
  have h2 := h.dcApp (K' := K') (kc' := kc') hj hn hl s (w2 := w2) (by rw [el, ec]; exact hs) hg
  rw [el] at h2
  exact ⟨_, h2⟩
/-- A body grew: the rest of the drawn productions stays. -/
theorem CD.app {w0 w w2 : World} {B g N cb cap lb j : Nat} {hd : Int} {xs : List Pv} {u : Value} (h : CD w0 B g N cb hd (some ⟨lb, 0, none⟩) cap xs w) (hj : j < xs.length) (hg : w.grownBy w2 xs[j].sl.ownBlock) :
    Own w2 cb 25 [.int .i64 hd, .slice (some ⟨lb, 0, none⟩) xs.length cap] ∧ Own (w2.setCell ⟨lb, j * 2 + 1, none⟩ u) cb 25 [.int .i64 hd, .slice (some ⟨lb, 0, none⟩) xs.length cap] ∧ Own (w2.setCell ⟨lb, j * 2 + 1, none⟩ u) w0.heap.size 25 [.int .i64 0, .slice none 0 0] ∧
    Rd (w2.setCell ⟨lb, j * 2 + 1, none⟩ u) B g N ∧ w0.grownBy (w2.setCell ⟨lb, j * 2 + 1, none⟩ u) (some g) ∧ w2.ownsRow (w0.heap.size + 1) 46 2 (.slice (some ⟨lb, 0, none⟩) xs.length cap) xs.length (pvCells xs) := by
  have hd9 := h.p.d j hj
  have hB := h.hB
  have hcb := h.cb
  have hgl := h.g_lt
  have hlt : ∀ z, xs[j].sl.ownBlock = some z → w0.heap.size + 1 ≤ z := fun z e => (hd9.lt z e).1
  have hlb := (h.p.o.lt lb rfl).1
  have hne : lb ≠ cb := fun e => own_ne_own h.p.o h.o (by decide) lb rfl e
  have o2 := own_grown h.o hg (fun e => own_ne_own hd9 h.o (by decide) cb e rfl)
  have r2 := own_grown h.r hg (fun e => own_ne_own hd9 h.r (by decide) _ e rfl)
  have hsz := h.fr.size
  have hgs := hg.size
  refine ⟨o2, o2.far (fun e => hne e.symm) u, r2.far (fun e => by simp only at e; omega) u, (h.rd.keep (fun z hz => hg.block z (by omega) (fun e => by have := hlt z (by first | exact e | exact e.symm); omega))).setCell (p := ⟨lb, j * 2 + 1, none⟩) (by show B ≤ lb; omega) u,
    ⟨hg.os.trans h.fr.os, hg.tape.trans h.fr.tape, hg.output.trans h.fr.output, by simp; omega, fun z hz hn => (Below.heap_setCell _ _ _ z (by show z ≠ lb; omega)).trans ((hg.block z (by omega) (fun e => by have := hlt z (by first | exact e | exact e.symm); omega)).trans (h.fr.block z hz hn))⟩,
    row_of h.p.o (fun b cur hb hc hl => hg.block b (Array.getElem?_eq_some_iff.1 hc).1 (fun e => own_ne h.p.o hd9 (by decide) b hb (by first | exact e | exact e.symm)))⟩

/-- A production with no body is appended. -/
theorem CD.push {w0 w w2 : World} {B g N cb cap cap' : Nat} {hd v : Int} {A A' : Option Addr} {zs : List Pv} (h : CD w0 B g N cb hd A cap zs w) (hg : w.grownBy w2 (Value.slice A zs.length cap).ownBlock)
    (ho' : w2.ownsRow (w0.heap.size + 1) 46 2 (.slice A' (zs.length + 1) cap') (zs.length + 1) (pvCells zs ++ [.int .i64 v, .slice none 0 0])) :
    Own w2 cb 25 [.int .i64 hd, .slice A zs.length cap] ∧ CD w0 B g N cb hd A' cap' (zs ++ [⟨⟨v, []⟩, none, 0⟩]) (w2.setCell ⟨cb, 1, none⟩ (.slice A' (zs.length + 1) cap')) := by
  have hB := h.hB
  have hcb := h.cb
  have hgl := h.g_lt
  have hlt : ∀ z, (Value.slice A zs.length cap).ownBlock = some z → w0.heap.size + 1 ≤ z := fun z e => (h.p.o.lt z e).1
  have o2 := own_grown h.o hg (fun e => own_ne_own h.p.o h.o (by decide) cb e rfl)
  have r2 := own_grown h.r hg (fun e => own_ne_own h.p.o h.r (by decide) _ e rfl)
  have hsz := h.fr.size
  have hgs := hg.size
  refine ⟨o2, ?_, r2.far (fun e => by simp only at e; omega) _, ?_, (h.rd.keep (fun z hz => hg.block z (by omega) (fun e => by have := hlt z (by first | exact e | exact e.symm); omega))).setCell (p := ⟨cb, 1, none⟩) (by show B ≤ cb; omega) _,
    ⟨hg.os.trans h.fr.os, hg.tape.trans h.fr.tape, hg.output.trans h.fr.output, by simp; omega, fun z hz hn => (Below.heap_setCell _ _ _ z (by show z ≠ cb; omega)).trans ((hg.block z (by omega) (fun e => by have := hlt z (by first | exact e | exact e.symm); omega)).trans (h.fr.block z hz hn))⟩, h.cb, h.hB⟩
  · have := o2.set_ 1 (.slice A' (zs.length + 1) cap')
    rw [List.length_append, List.length_singleton]
    exact this
  · exact (h.p.push' (x := ⟨⟨v, []⟩, none, 0⟩) (World.ownsRow_nil _ _ _ _) (fun i hi b _ e => by cases e) hg ho').far o2 (by decide) (by decide) _

end Go.Proofs.Ytkgiklmdpdakbaa

