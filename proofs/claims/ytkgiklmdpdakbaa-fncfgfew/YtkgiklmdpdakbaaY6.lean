/- A grammar is drawn: l71Gram. -/
import Derived.Test.YtkgiklmdpdakbaaY5
import Derived.Test.YtkgiklmdpdakbaaP13
namespace Go.Proofs.Ytkgiklmdpdakbaa
open Go.RowKit
set_option linter.unusedVariables false

theorem infoY33 : (Try.prog.info? 90).map (fun i => (i.zero, i.size, i.bytes)) = some (some (.agg #[.string ⟨#[]⟩, .int .i64 0, .string ⟨#[]⟩, .slice none 0 0, .slice none 0 0, .slice none 0 0, .int .i64 0, .int .i64 0]), 8, 128) := by kernel_rfl

def nmList : List ByteArray := [⟨#[115]⟩, ⟨#[120]⟩, ⟨#[121, 121]⟩, ⟨#[122, 101, 100]⟩]

/-- A grammar under way: the result's block, the names, the variable g in block G, the rules. -/
structure GL (w0 : World) (B g N G T : Nat) (rs : List Ru) (a : Option Addr) (c : Nat) (w : World) : Prop where
  r : Own w w0.heap.size 64 [.slice none 0 0]
  nm : Own w (w0.heap.size + 1) 9 [.string ⟨#[115]⟩, .string ⟨#[120]⟩, .string ⟨#[121, 121]⟩, .string ⟨#[122, 101, 100]⟩]
  gv : Own w G 64 [.slice a rs.length c]
  gr : GR w (G + 1) T (.slice a rs.length c) rs
  rd : Rd w B g N
  fr : w0.grownBy w (some g)
  hB : B ≤ w0.heap.size
  hG : w0.heap.size + 2 ≤ G
  lim : LimR 1000 rs

section
variable {w0 w w' : World} {B g N N' G T : Nat} {rs : List Ru} {a : Option Addr} {c : Nat}
theorem GL.size (h : GL w0 B g N G T rs a c w) : G + 1 ≤ w.heap.size := h.gv.lt
theorem GL.g_lt (h : GL w0 B g N G T rs a c w) : g < w0.heap.size := by have := h.rd.ltB; have := h.hB; omega
theorem GL.touch (h : GL w0 B g N G T rs a c w) (hg : w.grownBy w' (some g)) (hr : Rd w' B g N') : GL w0 B g N' G T rs a c w' :=
  ⟨own_touch h.r hg (by have := h.g_lt; omega), own_touch h.nm hg (by have := h.g_lt; omega), own_touch h.gv hg (by have := h.g_lt; have := h.hG; omega),
    h.gr.keep hg.size fun b hb hl => hg.block b (by have := h.gr.top; omega) (fun e => by injection e with e; have := h.g_lt; have := h.hG; omega), hr, only_trans h.fr hg, h.hB, h.hG, h.lim⟩
theorem GL.alloc (h : GL w0 B g N G T rs a c w) (o : Obj) : GL w0 B g N G T rs a c (w.alloc o) :=
  ⟨h.r.alloc o, h.nm.alloc o, h.gv.alloc o, h.gr.keep (by simp) fun b hb hl => Below.heap_alloc w o b (by have := h.gr.top; omega), h.rd.alloc (by have := h.size; have := h.hB; have := h.hG; omega) o, only_alloc h.fr o, h.hB, h.hG, h.lim⟩
theorem GL.drew (h : GL w0 B g N G T rs a c w) : GL w0 B g N G T rs a c w.drew := ⟨h.r.drew, h.nm.drew, h.gv.drew, h.gr.keep (Nat.le_refl _) fun _ _ _ => rfl, h.rd.drew, ⟨h.fr.os, h.fr.tape, h.fr.output, h.fr.size, h.fr.block⟩, h.hB, h.hG, h.lim⟩
theorem GL.mono (h : GL w0 B g N G T rs a c w) (hN : N ≤ N') : GL w0 B g N' G T rs a c w := ⟨h.r, h.nm, h.gv, h.gr, h.rd.mono (Nat.le_refl _) hN, h.fr, h.hB, h.hG, h.lim⟩
/-- A cell of a block behind all rules is written. -/
theorem GL.setCell (h : GL w0 B g N G T rs a c w) {p : Addr} (hp : T ≤ p.block) (hp2 : G < p.block) (u : Value) : GL w0 B g N G T rs a c (w.setCell p u) :=
  have hG := h.hG
  have hB := h.hB
  ⟨h.r.far (by omega) u, h.nm.far (by omega) u, h.gv.far (by omega) u, h.gr.keep (by simp [World.setCell]) fun b hb hl => Below.heap_setCell w p u b (by omega), h.rd.setCell (by omega) u,
    ⟨h.fr.os, h.fr.tape, h.fr.output, by simpa [World.setCell] using h.fr.size, fun i hi hne => (Below.heap_setCell _ _ _ i (by omega)).trans (h.fr.block i hi hne)⟩, hB, hG, h.lim⟩
/-- A row behind all rules has grown. -/
theorem GL.grown (h : GL w0 B g N G T rs a c w) {row : Option Nat} (hg : w.grownBy w' row) (hr : ∀ k, row = some k → T ≤ k ∧ G < k) : GL w0 B g N G T rs a c w' :=
  have hG := h.hG
  have hB := h.hB
  have hs := h.size
  have ht := h.gr.top
  have old : ∀ k, k < w.heap.size → (k < T ∨ k ≤ G) → w'.heap[k]? = w.heap[k]? := fun k hk h => hg.block k hk fun e => by have := hr k e.symm; omega
  ⟨(old _ h.r.lt (by omega)).trans h.r, (old _ h.nm.lt (by omega)).trans h.nm, (old _ h.gv.lt (by omega)).trans h.gv, h.gr.keep hg.size fun b hb hl => old b (by omega) (.inl hl), h.rd.grown (by omega) hg (fun k hk => by have := hr k hk; omega), only_new h.fr hg (fun k hk => by have := hr k hk; omega), hB, hG, h.lim⟩
theorem GL.start {w1 : World} (hr : Rd w1 B g N) (hg : ((w.alloc (.cells #[.slice none 0 0] 64)).alloc (.cells #[.string ⟨#[115]⟩, .string ⟨#[120]⟩, .string ⟨#[121, 121]⟩, .string ⟨#[122, 101, 100]⟩] 9)).grownBy w1 (some g)) (hB : B ≤ w.heap.size) :
    GL w B g N w1.heap.size (w1.heap.size + 1) [] none 0 (w1.alloc (.cells #[.slice none 0 0] 64)) := by
  have hgl := hr.ltB
  have hs := hg.size
  simp only [World.size_alloc] at hs
  have h1 : Own ((w.alloc (.cells #[.slice none 0 0] 64)).alloc (.cells #[.string ⟨#[115]⟩, .string ⟨#[120]⟩, .string ⟨#[121, 121]⟩, .string ⟨#[122, 101, 100]⟩] 9)) w.heap.size 64 [.slice none 0 0] := by
    simpa using (Own.new w 64 #[.slice none 0 0]).alloc (.cells #[.string ⟨#[115]⟩, .string ⟨#[120]⟩, .string ⟨#[121, 121]⟩, .string ⟨#[122, 101, 100]⟩] 9)
  have h2 : Own ((w.alloc (.cells #[.slice none 0 0] 64)).alloc (.cells #[.string ⟨#[115]⟩, .string ⟨#[120]⟩, .string ⟨#[121, 121]⟩, .string ⟨#[122, 101, 100]⟩] 9)) (w.heap.size + 1) 9 [.string ⟨#[115]⟩, .string ⟨#[120]⟩, .string ⟨#[121, 121]⟩, .string ⟨#[122, 101, 100]⟩] := by
    simpa using Own.new (w.alloc (.cells #[.slice none 0 0] 64)) 9 #[.string ⟨#[115]⟩, .string ⟨#[120]⟩, .string ⟨#[121, 121]⟩, .string ⟨#[122, 101, 100]⟩]
  refine ⟨(own_touch h1 hg (by omega)).alloc _, (own_touch h2 hg (by omega)).alloc _, by simpa using Own.new w1 64 #[.slice none 0 0], GR.nil _ _ _ (by simp), hr.alloc (by omega) _, only_alloc ?_ _, hB, by omega, fun r hr => absurd hr (by simp)⟩
  exact only_trans (only_alloc (only_alloc (only_of_below (Below.refl _ _) (Nat.le_refl _) _) _) _) hg
theorem GL.push {W w' : World} {xs cs : List Value} {sf ef : Nat → Nat} {s e g3 cap3 : Nat} {r : Ru} (h : GL w0 B g N G T rs a c W) (HR : GRow W (G + 1) T (.slice a rs.length c) rs xs sf ef) (hr : RuO W s e cs r) (hs : T ≤ s) (hs2 : G + 1 ≤ s) (he : e ≤ W.heap.size)
    (ho : w'.ownsRow (G + 1) 90 8 (.slice (some ⟨g3, 0, none⟩) (rs.length + 1) cap3) (rs.length + 1) (xs ++ cs)) (hg : W.grownBy w' (Value.slice a rs.length c).ownBlock) (hat : (Value.slice a rs.length c).ownBlock = some g3 ∨ g3 = W.heap.size) (hl : r.name.size ≤ 1000 ∧ Lim 1000 r.p) :
    (w'.cell? ⟨G, 0, none⟩ = some (.slice a rs.length c) ∧ w'.frozen? ⟨G, 0, none⟩ = false) ∧ GL w0 B g N G w'.heap.size (rs ++ [r]) (some ⟨g3, 0, none⟩) cap3 (w'.setCell ⟨G, 0, none⟩ (.slice (some ⟨g3, 0, none⟩) (rs.length + 1) cap3)) := by
  have hG := h.hG
  have hB := h.hB
  have hsz := h.size
  have hrow : ∀ k, (Value.slice a rs.length c).ownBlock = some k → G + 1 ≤ k := fun k hk => (h.gr.lt k hk).1
  have old : ∀ k, k ≤ G → w'.heap[k]? = W.heap[k]? := fun k hk => hg.block k (by omega) fun e => by have := hrow k e.symm; omega
  have h1 : Own w' w0.heap.size 64 [.slice none 0 0] := (old _ (by omega)).trans h.r
  have h2 : Own w' (w0.heap.size + 1) 9 [.string ⟨#[115]⟩, .string ⟨#[120]⟩, .string ⟨#[121, 121]⟩, .string ⟨#[122, 101, 100]⟩] := (old _ (by omega)).trans h.nm
  have h3 : Own w' G 64 [.slice a rs.length c] := (old _ (by omega)).trans h.gv
  have hGR : GR w' (G + 1) w'.heap.size (.slice (some ⟨g3, 0, none⟩) (rs.length + 1) cap3) (rs ++ [r]) := HR.app hr hs2 hs he ho hg (by
    rcases hat with q | q
    · exact .inl (by rw [q]; rfl)
    · exact .inr (by rw [q]; rfl))
  have hfr := only_new h.fr hg (fun k hk => by have := hrow k hk; omega)
  refine ⟨⟨by rw [h3.cell]; rfl, h3.frozen 0⟩, h1.far (by simp only; omega) _, h2.far (by simp only; omega) _, by simpa using h3.set_ 0 (.slice (some ⟨g3, 0, none⟩) (rs.length + 1) cap3), ?_, (h.rd.grown (by omega) hg (fun k hk => by have := hrow k hk; omega)).setCell (by simp only; omega) _,
    ⟨hfr.os, hfr.tape, hfr.output, by simpa [World.setCell] using hfr.size, fun i hi hne => (Below.heap_setCell _ _ _ i (by simp only; omega)).trans (hfr.block i hi hne)⟩, hB, hG, fun q hq => ?_⟩
  · have := hGR.keep (w' := w'.setCell ⟨G, 0, none⟩ (.slice (some ⟨g3, 0, none⟩) (rs.length + 1) cap3)) (by simp [World.setCell]) fun b hb _ => Below.heap_setCell _ _ _ b (by simp only; omega)
    simpa using this
  · rcases List.mem_append.1 hq with hq | hq
    · exact h.lim q hq
    · rw [List.mem_singleton] at hq; subst hq; exact hl
theorem GL.names (h : GL w0 B g N G T rs a c w) {n : Nat} (h0 : 0 < n) (hn : n ≤ 4) : Nm w g (some ⟨w0.heap.size + 1, 0, none⟩) (nmList.take n) := by
  have hl : nmList.length = 4 := rfl
  refine ⟨by simp [hl]; omega, by simp [hl]; omega, fun s hs => ?_, w0.heap.size + 1, 0, rfl, by have := h.g_lt; omega, fun i hi => ?_⟩
  · have hs := List.mem_of_mem_take hs
    simp [nmList] at hs
    rcases hs with rfl | rfl | rfl | rfl <;> decide
  · have hi4 : i < 4 := by simp [hl] at hi; omega
    rw [h.nm.cell, List.getElem_take, Nat.zero_add]
    have : i = 0 ∨ i = 1 ∨ i = 2 ∨ i = 3 := by omega
    rcases this with rfl | rfl | rfl | rfl <;> rfl
end

/-- The part of a rule, in a variable of its own: block X. -/
def PV (w : World) (s X : Nat) (p : Pt) : Prop :=
  ∃ (k : Int) (t : ByteArray) (lo hi : List Int) (kids : List Pt) (mn mx : Int) (A C K : Option Addr) (ca cc kc : Nat), p = .mk k t lo hi kids mn mx ∧ Own w X 88 (c7 k t A lo.length ca C hi.length cc K kids.length kc mn mx) ∧ OPt w s w.heap.size lo hi kids A C K ca cc kc ∧ Lim 1000 p
theorem PtC.drew {w : World} {F : Nat → Prop} {cs : List Value} {p : Pt} (h : PtC w F cs p) : PtC w.drew F cs p := h.mv (w := w) (w' := w.drew) fun _ _ _ => rfl
theorem ptC_text (w : World) (F : Nat → Prop) (k : Int) (t : ByteArray) : PtC w F (c7 k t none 0 0 none 0 0 none 0 0 0 0) (.mk k t [] [] [] 0 0) :=
  .mk k t [] [] [] 0 0 none none none 0 0 0 0 0 (fun _ => []) (.inl rfl) (.inl rfl) (fun h => (h rfl).elim) (fun h => (h rfl).elim) (fun h => (h rfl).elim) (fun i hi => absurd hi (by simp)) (fun i hi => absurd hi (by simp)) (fun i hi => absurd hi (by simp))

/-- The kids of a choice that was drawn are put behind the text. -/
theorem wrap_more {w0 W6 w7 : World} {B g N G T s X R0 g3 cap3 : Nat} {rs : List Ru} {a : Option Addr} {c : Nat} {u : ByteArray} {kids : List Pt} {css : List Value} {F : Nat → Prop} (HL : GL w0 B g N G T rs a c W6) (HX : Own W6 X 88 (c7 5 ⟨#[]⟩ none 0 0 none 0 0 (some ⟨R0, 0, none⟩) 2 2 0 0))
    (hrt : W6.drew.ownsRow s 88 7 (.slice (some ⟨R0, 0, none⟩) 1 2) 1 (c7 1 u none 0 0 none 0 0 none 0 0 0 0)) (hk : ∀ i (h : i < kids.length), PtC W6 F (sev css i) kids[i]) (hF : ∀ b, F b → s ≤ b ∧ b < X)
    (hown : w7.ownsRow s 88 7 (.slice (some ⟨g3, 0, none⟩) (1 + kids.length) cap3) (1 + kids.length) (c7 1 u none 0 0 none 0 0 none 0 0 0 0 ++ css)) (hgr : W6.drew.grownBy w7 (Value.slice (some ⟨R0, 0, none⟩) 1 2).ownBlock)
    (hat : (Value.slice (some ⟨R0, 0, none⟩) 1 2).ownBlock = some g3 ∨ g3 = W6.drew.heap.size) (hT : T ≤ s) (hG : G + 1 ≤ s) (hsX : s ≤ X) (hXR : X < R0) (hu : u.size ≤ 1000) (hl : ∀ p ∈ kids, Lim 1000 p) (hlen : kids.length ≤ 900) :
    PV (w7.setCell ⟨X, 4, none⟩ (.slice (some ⟨g3, 0, none⟩) (1 + kids.length) cap3)) s X (.mk 5 ⟨#[]⟩ [] [] ([.mk 1 u [] [] [] 0 0] ++ kids) 0 0) ∧ GL w0 B g N G T rs a c (w7.setCell ⟨X, 4, none⟩ (.slice (some ⟨g3, 0, none⟩) (1 + kids.length) cap3)) := by
  have hR : ∀ b, (Value.slice (some ⟨R0, 0, none⟩) 1 2).ownBlock = some b → R0 = b := fun b hb => by simpa [Value.ownBlock] using hb
  have hlt := HX.lt
  have hg3 : g3 ≠ X := by
    rcases hat with q | q
    · have := hR _ q; omega
    · intro e; rw [e] at q; have : X = W6.heap.size := q; omega
  have hX7 : Own w7 X 88 (c7 5 ⟨#[]⟩ none 0 0 none 0 0 (some ⟨R0, 0, none⟩) 2 2 0 0) := (hgr.block X hlt (fun e => by have := hR _ e.symm; omega)).trans HX
  have hKR : KR w7 s (fun b => b ≠ X) (.slice (some ⟨g3, 0, none⟩) (1 + kids.length) cap3) ([.mk 1 u [] [] [] 0 0] ++ kids) := by
    refine KR.app (w := W6.drew) (v := .slice (some ⟨R0, 0, none⟩) 1 2) (kids := [.mk 1 u [] [] [] 0 0]) (ps := kids) hrt (fun i hi => ?_) (fun i hi => ?_) hown hgr ?_
    · have e : i = 0 := by simpa using hi
      subst e
      exact ptC_text _ _ 1 u
    · exact (hk i hi).drew.mono fun b hb _ => ⟨(hF b hb).1, fun e => by have := hR _ e; have := (hF b hb).2; omega, by have := (hF b hb).2; omega⟩
    · rcases hat with q | q
      · exact .inl (by rw [q]; rfl)
      · exact .inr (by rw [q]; rfl)
  have hne : ∀ b, (Value.slice (some ⟨g3, 0, none⟩) (1 + kids.length) cap3).ownBlock = some b ∨ b ≠ X → b ≠ X := fun b hb => by
    rcases hb with hb | hb
    · have : g3 = b := by simpa [Value.ownBlock] using hb
      omega
    · exact hb
  have hK8 : KR (w7.setCell ⟨X, 4, none⟩ (.slice (some ⟨g3, 0, none⟩) (1 + kids.length) cap3)) s (fun b => b ≠ X) (.slice (some ⟨g3, 0, none⟩) (1 + kids.length) cap3) ([.mk 1 u [] [] [] 0 0] ++ kids) :=
    hKR.keepX fun b _ _ hb => Below.heap_setCell _ _ _ b (hne b hb)
  have e1 : ([Pt.mk 1 u [] [] [] 0 0] ++ kids).length = 1 + kids.length := by simp; omega
  refine ⟨⟨5, ⟨#[]⟩, [], [], [.mk 1 u [] [] [] 0 0] ++ kids, 0, 0, none, none, some ⟨g3, 0, none⟩, 0, 0, cap3, rfl, ?_, OPt.ofKids hK8, lim_kids 5 _ 0 0 (by rw [e1]; omega) fun p hp => ?_⟩, ?_⟩
  · rw [e1]; exact hX7.set_ 4 _
  · rcases List.mem_append.1 hp with hp | hp
    · rw [List.mem_singleton] at hp; subst hp; exact lim_bare 1 u 0 0 hu
    · exact hl p hp
  · exact (HL.drew.grown hgr (fun k hk => by have := hR k hk; omega)).setCell (by show T ≤ X; omega) (by show G < X; omega) _
theorem Lim.up {M M' : Nat} (h : M ≤ M') {p : Pt} (hp : Lim M p) : Lim M' p := by
  induction hp with
  | mk k t lo hi kids mn mx h1 h2 h3 h4 h5 ih => exact .mk k t lo hi kids mn mx (by omega) (by omega) (by omega) (by omega) ih
theorem LimR.up {M M' : Nat} (h : M ≤ M') {rs : List Ru} (hr : LimR M rs) : LimR M' rs := fun r hm => ⟨Nat.le_trans (hr r hm).1 h, (hr r hm).2.up h⟩

/-- A part that was drawn is put behind a text: two kids in a new row. -/
theorem wrap_mk {w0 w5 : World} {B g N G T s X : Nat} {rs : List Ru} {a : Option Addr} {c : Nat} {k : Int} {t u : ByteArray} {lo hi : List Int} {kids : List Pt} {mn mx : Int} {A C K : Option Addr} {ca cc kc : Nat} (HL : GL w0 B g N G T rs a c w5) (HX : Own w5 X 88 (c7 k t A lo.length ca C hi.length cc K kids.length kc mn mx))
    (HO : OPt w5 s X lo hi kids A C K ca cc kc) (HP : PtC w5 (fun b => s ≤ b ∧ b < X) (c7 k t A lo.length ca C hi.length cc K kids.length kc mn mx) (.mk k t lo hi kids mn mx)) (hT : T ≤ s) (hG : G + 1 ≤ s) (hsX : s ≤ X) {W6 : World}
    (hW : W6 = (((((((w5.setCell ⟨X, 0, none⟩ (.int .i64 5)).setCell ⟨X, 1, none⟩ (.string ⟨#[]⟩)).setCell ⟨X, 2, none⟩ (.slice none 0 0)).setCell ⟨X, 3, none⟩ (.slice none 0 0)).setCell ⟨X, 4, none⟩ (.slice (some ⟨w5.heap.size, 0, none⟩) 2 2)).setCell ⟨X, 5, none⟩ (.int .i64 0)).setCell ⟨X, 6, none⟩ (.int .i64 0)).alloc
      (.cells #[.int .i64 1, .string u, .slice none 0 0, .slice none 0 0, .slice none 0 0, .int .i64 0, .int .i64 0, .int .i64 k, .string t, .slice A lo.length ca, .slice C hi.length cc, .slice K kids.length kc, .int .i64 mn, .int .i64 mx] 88)) :
    GL w0 B g N G T rs a c W6 ∧ Own W6 X 88 (c7 5 ⟨#[]⟩ none 0 0 none 0 0 (some ⟨w5.heap.size, 0, none⟩) 2 2 0 0) ∧
      W6.ownsRow s 88 7 (.slice (some ⟨w5.heap.size, 0, none⟩) 2 2) 2 (c7 1 u none 0 0 none 0 0 none 0 0 0 0 ++ c7 k t A lo.length ca C hi.length cc K kids.length kc mn mx) ∧ OPt W6 s X lo hi kids A C K ca cc kc ∧
      PtC W6 (fun b => s ≤ b ∧ b < X) (c7 k t A lo.length ca C hi.length cc K kids.length kc mn mx) (.mk k t lo hi kids mn mx) ∧ W6.heap.size = w5.heap.size + 1 ∧ X < w5.heap.size := by
  have hXl := HX.lt
  have h7 := seven_cell (k' := 5) (t' := ⟨#[]⟩) (A' := none) (la' := 0) (ca' := 0) (C' := none) (lb' := 0) (cb' := 0) (K' := some ⟨w5.heap.size, 0, none⟩) (lk' := 2) (kc' := 2) (mn' := 0) (mx' := 0) HX
  have hset : GL w0 B g N G T rs a c (((((((w5.setCell ⟨X, 0, none⟩ (.int .i64 5)).setCell ⟨X, 1, none⟩ (.string ⟨#[]⟩)).setCell ⟨X, 2, none⟩ (.slice none 0 0)).setCell ⟨X, 3, none⟩ (.slice none 0 0)).setCell ⟨X, 4, none⟩ (.slice (some ⟨w5.heap.size, 0, none⟩) 2 2)).setCell ⟨X, 5, none⟩ (.int .i64 0)).setCell ⟨X, 6, none⟩ (.int .i64 0)) := by
    have e : ∀ {w : World} (i : Nat) (u : Value), GL w0 B g N G T rs a c w → GL w0 B g N G T rs a c (w.setCell ⟨X, i, none⟩ u) := fun i u h => h.setCell (by show T ≤ X; omega) (by show G < X; omega) u
    exact e _ _ (e _ _ (e _ _ (e _ _ (e _ _ (e _ _ (e _ _ HL))))))
  have oth := fun i hi => seven_other (R := X) (w := w5) (.int .i64 5) (.string ⟨#[]⟩) (.slice none 0 0) (.slice none 0 0) (.slice (some ⟨w5.heap.size, 0, none⟩) 2 2) (.int .i64 0) (.int .i64 0) i hi
  have hsz : (((((((w5.setCell ⟨X, 0, none⟩ (.int .i64 5)).setCell ⟨X, 1, none⟩ (.string ⟨#[]⟩)).setCell ⟨X, 2, none⟩ (.slice none 0 0)).setCell ⟨X, 3, none⟩ (.slice none 0 0)).setCell ⟨X, 4, none⟩ (.slice (some ⟨w5.heap.size, 0, none⟩) 2 2)).setCell ⟨X, 5, none⟩ (.int .i64 0)).setCell ⟨X, 6, none⟩ (.int .i64 0)).heap.size = w5.heap.size := by simp [World.setCell]
  generalize (((((((w5.setCell ⟨X, 0, none⟩ (.int .i64 5)).setCell ⟨X, 1, none⟩ (.string ⟨#[]⟩)).setCell ⟨X, 2, none⟩ (.slice none 0 0)).setCell ⟨X, 3, none⟩ (.slice none 0 0)).setCell ⟨X, 4, none⟩ (.slice (some ⟨w5.heap.size, 0, none⟩) 2 2)).setCell ⟨X, 5, none⟩ (.int .i64 0)).setCell ⟨X, 6, none⟩ (.int .i64 0)) = V at *
  subst hW
  have old : ∀ b, b < w5.heap.size → b ≠ X → (V.alloc (.cells #[.int .i64 1, .string u, .slice none 0 0, .slice none 0 0, .slice none 0 0, .int .i64 0, .int .i64 0, .int .i64 k, .string t, .slice A lo.length ca, .slice C hi.length cc, .slice K kids.length kc, .int .i64 mn, .int .i64 mx] 88)).heap[b]? = w5.heap[b]? :=
    fun b hb hx => (Below.heap_alloc V _ b (by omega)).trans (oth b hx)
  refine ⟨hset.alloc _, h7.alloc _, ?_, HO.keep fun b _ h2 h3 => old b h3 (by omega), HP.mv fun b hb hl => old b hl (by omega), by rw [World.size_alloc, hsz], hXl⟩
  have := own_new V 88 7 s 2 (c7 1 u none 0 0 none 0 0 none 0 0 0 0 ++ c7 k t A lo.length ca C hi.length cc K kids.length kc mn mx) (by omega) rfl (by simp [maxLen])
  rw [hsz] at this
  exact this

def GramPost (w : World) (B g N : Nat) (e : Ending) (w' : World) : Prop :=
  ∃ (rs : List Ru) (a : Option Addr) (c T : Nat), e = .returned (.agg #[.slice a rs.length c]) ∧ GR w' w.heap.size T (.slice a rs.length c) rs ∧ 1 ≤ rs.length ∧ rs.length ≤ 4 ∧ LimR 1000 rs ∧ Rd w' B g (N + 30000) ∧ w.grownBy w' (some g)

theorem gram_done {w0 w : World} {B g M N G T : Nat} {rs : List Ru} {a : Option Addr} {c : Nat} (h : GL w0 B g M G T rs a c w) (hM : M ≤ N + 30000) (h1 : 1 ≤ rs.length) (h4 : rs.length ≤ 4) :
    GramPost w0 B g N (.returned (.agg #[.slice a rs.length c])) (w.setCell ⟨w0.heap.size, 0, none⟩ (.slice a rs.length c)) := by
  have hG := h.hG
  have hB := h.hB
  refine ⟨rs, a, c, T, rfl, ?_, h1, h4, h.lim, (h.rd.setCell (by simp only; omega) _).mono (Nat.le_refl _) hM, ⟨h.fr.os, h.fr.tape, h.fr.output, by simpa [World.setCell] using h.fr.size, fun i hi hne => (Below.heap_setCell _ _ _ i (by simp only; omega)).trans (h.fr.block i hi hne)⟩⟩
  exact (h.gr.keep (by simp [World.setCell]) fun b hb _ => Below.heap_setCell _ _ _ b (by simp only; omega)).low (by omega)
/-- The grammar of one text that stands in for one that is none. -/
def oneRule : Ru := ⟨⟨#[115]⟩, .mk 1 ⟨#[97, 98]⟩ [] [] [] 0 0⟩
theorem gram_else {w0 w : World} {B g M N G T : Nat} {rs : List Ru} {a : Option Addr} {c : Nat} (h : GL w0 B g M G T rs a c w) (hM : M ≤ N + 30000) :
    GramPost w0 B g N (.returned (.agg #[.slice (some ⟨w.heap.size, 0, none⟩) 1 1])) ((w.setCell ⟨w0.heap.size, 0, none⟩ (.slice (some ⟨w.heap.size, 0, none⟩) 1 1)).alloc (.cells #[.string ⟨#[115]⟩, .int .i64 1, .string ⟨#[97, 98]⟩, .slice none 0 0, .slice none 0 0, .slice none 0 0, .int .i64 0, .int .i64 0] 90)) := by
  have hG := h.hG
  have hB := h.hB
  have hs := h.size
  have hsz : (w.setCell ⟨w0.heap.size, 0, none⟩ (.slice (some ⟨w.heap.size, 0, none⟩) 1 1)).heap.size = w.heap.size := by simp [World.setCell]
  have hfr : w0.grownBy (w.setCell ⟨w0.heap.size, 0, none⟩ (.slice (some ⟨w.heap.size, 0, none⟩) 1 1)) (some g) := ⟨h.fr.os, h.fr.tape, h.fr.output, by simpa [World.setCell] using h.fr.size, fun i hi hne => (Below.heap_setCell _ _ _ i (by simp only; omega)).trans (h.fr.block i hi hne)⟩
  refine ⟨[oneRule], some ⟨w.heap.size, 0, none⟩, 1, w.heap.size + 1, rfl, ?_, by simp, by simp, fun r hr => ?_, ((h.rd.setCell (by simp only; omega) _).alloc (by rw [hsz]; omega) _).mono (Nat.le_refl _) hM, only_alloc hfr _⟩
  · have hown := own_new (w.setCell ⟨w0.heap.size, 0, none⟩ (.slice (some ⟨w.heap.size, 0, none⟩) 1 1)) 90 8 w0.heap.size 1 [.string ⟨#[115]⟩, .int .i64 1, .string ⟨#[97, 98]⟩, .slice none 0 0, .slice none 0 0, .slice none 0 0, .int .i64 0, .int .i64 0] (by rw [hsz]; omega) rfl (by simp [maxLen])
    rw [hsz] at hown
    have hob : ∀ b, (Value.slice (some ⟨w.heap.size, 0, none⟩) 1 1).ownBlock = some b → w.heap.size = b := fun b hb => by simpa [Value.ownBlock] using hb
    refine ⟨_, fun _ => w.heap.size + 1, fun _ => w.heap.size + 1, hown, fun i hi => ?_, fun i hi => ⟨(by show w0.heap.size ≤ w.heap.size + 1; omega), Nat.le_refl _, fun b hb => .inl (by have := hob b hb; show b < w.heap.size + 1; omega)⟩, fun i j hi hj hij => ?_, fun b hb => by have := hob b hb; omega, by rw [World.size_alloc, hsz]; omega⟩
    · have e : i = 0 := by simpa using hi
      subst e
      refine ⟨1, ⟨#[97, 98]⟩, [], [], [], 0, 0, none, none, none, 0, 0, 0, rfl, rfl, ?_⟩
      exact ⟨own_ints_nil _ _, own_ints_nil _ _, fun k h => (none_block h).elim, KR.nil _ _ _, fun k h => (none_block h).elim, fun k h => (none_block h).elim, fun k h => (none_block h).elim⟩
    · simp at hi hj; omega
  · rw [List.mem_singleton] at hr
    subst hr
    exact ⟨by decide, lim_bare 1 ⟨#[97, 98]⟩ 0 0 (by decide)⟩

set_option maxRecDepth 100000 in
set_option maxHeartbeats 4000000 in
theorem gram_any (B g N : Nat) (w : World) (hrd : Rd w B g N) (hB : B ≤ w.heap.size) (hN : N ≤ 100) :
    Calls Try.prog 36 #[.pointer (some ⟨g, 0, none⟩)] w (GramPost w B g N) := by
  obtain ⟨i0, hi0, hz0, hz1, hz2⟩ := info_parts infoY33
  have HI := Lib.hid (And.intro hi0 (And.intro hz0 (And.intro hz1 hz2)))
  clear hi0 hz0 hz1 hz2
  obtain ⟨i1, hj0, hy0, hy1, hy2⟩ := info_parts infoY31
  have HJ := Lib.hid (And.intro hj0 (And.intro hy0 (And.intro hy1 hy2)))
  clear hj0 hy0 hy1 hy2
  have hrd2 := (hrd.alloc hB (.cells #[.slice none 0 0] 64)).alloc (by simp; omega) (.cells #[.string ⟨#[115]⟩, .string ⟨#[120]⟩, .string ⟨#[121, 121]⟩, .string ⟨#[122, 101, 100]⟩] 9)
  clear hrd
  go_enter Try.func36, Try.ntmps36
  go_wp2_with fail
  refine (pick_any B g N 4 _ hrd2 (by omega) (by omega) (by omega)).mono ?_
  rintro e w1 ⟨v, rfl, hv0, hv1, hrd1, hg1⟩
  have HL := GL.start hrd1 hg1 hB
  have hv3 : v ≤ 3 := by rcases hv1 with h | h <;> omega
  clear hrd1 hrd2 hg1 hv1
  obtain ⟨m, hm⟩ : ∃ m : Nat, v = (m : Int) := ⟨v.toNat, by omega⟩
  subst hm
  have hm3 : m ≤ 3 := by omega
  clear hv0 hv3
  have hwm : (1 + (m : Int)).toNat = m + 1 := by omega
  go_wp2
  go_loopw [6] (fun q wr => ∃ (rs : List Ru) (a : Option Addr) (c T j : Nat), q = .int .i64 j ∧ j ≤ m + 1 ∧ Hid (rs.length = j) ∧ GL w B g (N + 1 + 6500 * j) w1.heap.size T rs a c wr) (fun q _ => 5 - (intOf q).toNat)
  case atStart => exact ⟨[], none, 0, _, 0, rfl, by omega, rfl, HL.mono (by omega)⟩
  case round =>
    clear HL
    obtain ⟨rs, a, c, T, j, rfl, hj, HRL, HL⟩ := hrel
    have hsz := HL.size
    by_cases hlt : j < m + 1
    · have hlt' : (j : Int) < ((m + 1 : Nat) : Int) := by omega
      have hj6 : 6500 * j ≤ 6500 * 3 := Nat.mul_le_mul_left _ (by omega)
      go_wp2_with fail
      refine (pick_any B g _ 4 _ HL.rd (by omega) (by omega) (by omega)).mono ?_
      rintro e w2 ⟨v, rfl, hv0, hv1, hrd2, hg2⟩
      replace HL := HL.touch hg2 hrd2
      clear hrd2 hg2
      have hv3 : v ≤ 3 := by rcases hv1 with h | h <;> omega
      obtain ⟨dn, hdn⟩ : ∃ dn : Nat, v = (dn : Int) := ⟨v.toNat, by omega⟩
      subst hdn
      have hdn3 : dn ≤ 3 := by omega
      clear hv0 hv1 hv3
      have hcost : cost (dn + 1) ≤ 6400 := by
        unfold cost
        have : 4 ^ (dn + 1) ≤ 4 ^ 4 := Nat.pow_le_pow_right (by decide) (by omega)
        omega
      have HC : Hid (Calls Try.prog 52 #[.pointer (some ⟨g, 0, none⟩), .slice (some ⟨w.heap.size + 1, 0, none⟩) (m + 1) 4, .int .i64 (1 + (dn : Int))] w2 (PartPost w2 B g (N + 1 + 6500 * j + 1) (dn + 1))) := by
        have h := drawPart_all (dn + 1) (by omega) (by omega) B g (N + 1 + 6500 * j + 1) (some ⟨w.heap.size + 1, 0, none⟩) 4 (nmList.take (m + 1)) w2 HL.rd (by have := HL.hB; have := HL.size; have := HL.hG; omega) (by omega) (HL.names (by omega) (by omega))
        have e1 : (nmList.take (m + 1)).length = m + 1 := by simp [nmList]; omega
        have e2 : ((dn + 1 : Nat) : Int) = 1 + (dn : Int) := by omega
        rw [e1, e2] at h
        exact h
      go_wp2_with fail
      refine HC.out.mono ?_
      rintro e w3 ⟨pk, pt, plo, phi, pkids, pmn, pmx, PA, PC, PK, pa, pc, pkc, rfl, hT, hlim, hkl, h5, hrd3, hg3⟩
      have hs3 := hg3.size
      have hT2 := HL.gr.top
      have HTS : Hid (T ≤ w2.heap.size ∧ w1.heap.size + 1 ≤ w2.heap.size) := ⟨hT2, HL.size⟩
      replace HL := HL.touch hg3 hrd3
      have HLX := HL.alloc (.cells (c7 pk pt PA plo.length pa PC phi.length pc PK pkids.length pkc pmn pmx).toArray 88)
      have HT := Lib.hid hT
      have HLM := Lib.hid hlim
      have HKL := Lib.hid hkl
      have H5 := Lib.hid h5
      have HX : Hid (Own (w3.alloc (.cells (c7 pk pt PA plo.length pa PC phi.length pc PK pkids.length pkc pmn pmx).toArray 88)) w3.heap.size 88 (c7 pk pt PA plo.length pa PC phi.length pc PK pkids.length pkc pmn pmx)) := by
        exact Own.new w3 88 (c7 pk pt PA plo.length pa PC phi.length pc PK pkids.length pkc pmn pmx).toArray
      have HTX : Hid (OPt (w3.alloc (.cells (c7 pk pt PA plo.length pa PC phi.length pc PK pkids.length pkc pmn pmx).toArray 88)) w2.heap.size w3.heap.size plo phi pkids PA PC PK pa pc pkc) := (hT.opt (Nat.le_refl _)).keep fun b _ _ hl => Below.heap_alloc w3 _ b hl
      have HQX : Hid (PtC (w3.alloc (.cells (c7 pk pt PA plo.length pa PC phi.length pc PK pkids.length pkc pmn pmx).toArray 88)) (fun b => w2.heap.size ≤ b ∧ b < w3.heap.size) (c7 pk pt PA plo.length pa PC phi.length pc PK pkids.length pkc pmn pmx) (.mk pk pt plo phi pkids pmn pmx)) := (hT.ptC pk pt pmn pmx).mv' fun b hb hl => ⟨Below.heap_alloc w3 _ b hl, hb, hl⟩
      clear hT hlim hkl h5 hrd3 hg3 HC HL hT2 HT
      simp only [c7] at HLX HX HTX HQX ⊢
      go_upto_region 8 with fail
      have hlx : w3.heap.size < (w3.alloc (.cells #[.int .i64 pk, .string pt, .slice PA plo.length pa, .slice PC phi.length pc, .slice PK pkids.length pkc, .int .i64 pmn, .int .i64 pmx] 88)).heap.size := by rw [World.size_alloc]; omega
      generalize w3.alloc (.cells #[.int .i64 pk, .string pt, .slice PA plo.length pa, .slice PC phi.length pc, .slice PK pkids.length pkc, .int .i64 pmn, .int .i64 pmx] 88) = W3 at *
      go_wp2_with fail
      refine (pick_any B g _ 3 _ HLX.rd (by omega) (by omega) (by omega)).mono ?_
      rintro e w4 ⟨x, rfl, hx0, hx1, hrd4, hg4⟩
      have hgl := HLX.g_lt
      have hG := HLX.hG
      replace HLX := HLX.touch hg4 hrd4
      have HX4 := Lib.hid (own_touch HX.out hg4 (by have := HTS.out; omega))
      have HT4 : Hid (OPt w4 w2.heap.size w3.heap.size plo phi pkids PA PC PK pa pc pkc) := HTX.out.keep fun b hb _ hl => hg4.block b hl (fun e => by injection e with e; have := HTS.out; omega)
      have HQ4 : Hid (PtC w4 (fun b => w2.heap.size ≤ b ∧ b < w3.heap.size) (c7 pk pt PA plo.length pa PC phi.length pc PK pkids.length pkc pmn pmx) (.mk pk pt plo phi pkids pmn pmx)) := HQX.out.mv fun b hb hl => hg4.block b hl (fun e => by injection e with e; have := HTS.out; omega)
      have hs4 := hg4.size
      clear hrd4 hg4 HX HTX HQX
      go_upto_if 29 with fail
      go_cut [] (fun wx => ∃ p : Pt, PV wx w2.heap.size w3.heap.size p ∧ GL w B g (N + 1 + 6500 * (j + 1)) w1.heap.size T rs a c wx)
      case first =>
        by_cases hx : 0 < x
        · obtain ⟨x0, x1, x2, x3, x4, x5, x6⟩ := c7_cells HX4.out
          have hgl4 := HLX.g_lt
          have HGX : Hid (g ≠ w3.heap.size) := by show _ ≠ _; have := HTS.out; omega
          have HB4 : Hid (B ≤ w4.heap.size) := by show _ ≤ _; have := HLX.hB; have := HLX.size; have := HLX.hG; omega
          go_wp2_with fail
          go_region_law (go_simp; go_at_call 53; refine (bytes_any B g _ 2 _ HLX.drew.rd HB4.out (by omega) (by omega) (by omega)).mono ?_; rintro e w5 ⟨s, rfl, hs, hrd5, hg5⟩; have HLX5 := Lib.hid (HLX.drew.touch hg5 hrd5); have HX5 := Lib.hid (own_touch HX4.out.drew hg5 (fun e => HGX.out e.symm)); have HT5 : Hid (OPt w5 w2.heap.size w3.heap.size plo phi pkids PA PC PK pa pc pkc) := (HT4.out.keep (w' := w5) fun b hb _ hl => hg5.block b hl (fun e => by injection e with e; have := HTS.out; omega)); have HQ5 : Hid (PtC w5 (fun b => w2.heap.size ≤ b ∧ b < w3.heap.size) (c7 pk pt PA plo.length pa PC phi.length pc PK pkids.length pkc pmn pmx) (.mk pk pt plo phi pkids pmn pmx)) := (HQ4.out.drew.mv (w' := w5) fun b hb hl => hg5.block b hl (fun e => by injection e with e; have := HTS.out; omega)); have hs5 : w4.heap.size ≤ w5.heap.size := hg5.size; obtain ⟨y0, y1, y2, y3, y4, y5, y6⟩ := c7_cells HX5.out; have z0 := HX5.out.frozen 0; have z1 := HX5.out.frozen 1; have z2 := HX5.out.frozen 2; have z3 := HX5.out.frozen 3; have z4 := HX5.out.frozen 4; have z5 := HX5.out.frozen 5; have z6 := HX5.out.frozen 6; have hxl : w3.heap.size < w5.heap.size := (by omega); clear hg5 hrd5)
          all_goals
            obtain ⟨HLW, HXW, HRW, HOW, HQW, hW6, hX5⟩ := wrap_mk (u := s) HLX5.out HX5.out HT5.out HQ5.out HTS.out.1 HTS.out.2 (by omega) rfl
            have HRW1 := Lib.hid HRW
            have HOW1 := Lib.hid HOW
            have HQW1 := Lib.hid HQW
            have HXW1 := Lib.hid HXW
            have HW6 := Lib.hid hW6
            clear y0 y1 y2 y3 y4 y5 y6 z0 z1 z2 z3 z4 z5 z6 x0 x1 x2 x3 x4 x5 x6 HRW HOW HQW HXW hW6 HLX5 HX5 HT5 HQ5
            go_upto_region 10 with fail
            generalize (((((((w5.setCell ⟨w3.heap.size, 0, none⟩ (.int .i64 5)).setCell ⟨w3.heap.size, 1, none⟩ (.string ⟨#[]⟩)).setCell ⟨w3.heap.size, 2, none⟩ (.slice none 0 0)).setCell ⟨w3.heap.size, 3, none⟩ (.slice none 0 0)).setCell ⟨w3.heap.size, 4, none⟩ (.slice (some ⟨w5.heap.size, 0, none⟩) 2 2)).setCell ⟨w3.heap.size, 5, none⟩ (.int .i64 0)).setCell ⟨w3.heap.size, 6, none⟩ (.int .i64 0)).alloc (.cells #[.int .i64 1, .string s, .slice none 0 0, .slice none 0 0, .slice none 0 0, .int .i64 0, .int .i64 0, .int .i64 pk, .string pt, .slice PA plo.length pa, .slice PC phi.length pc, .slice PK pkids.length pkc, .int .i64 pmn, .int .i64 pmx] 88) = W6 at *
            have x4 := (c7_cells HXW1.out).2.2.2.2.1
            have k0 : W6.cell? ⟨w5.heap.size, 7, none⟩ = some (.int .i64 pk) := own_cellN HRW1.out 7 _ rfl
            by_cases hk5 : pk = 5
            · have hke : (pk == 5) = true := by simp [hk5]
              have h2k : 2 ≤ pkids.length := H5.out hk5
              have hkb : pkids.length ≤ 243 := by have h1 := HKL.out; have h2 := pow_le (dn + 1) (by omega); omega
              clear hk5
              obtain ⟨css', hr', hkk'⟩ := HOW1.out.ks
              obtain ⟨pb, pcap, ePK, _, _⟩ := own_some hr' (by omega)
              injection ePK with ePK _ ePC
              subst ePK ePC
              have HRK : Hid (W6.drew.ownsRow w2.heap.size 88 7 (.slice (some ⟨pb, 0, none⟩) pkids.length pkc) pkids.length css') := hr'
              have HRT : Hid (W6.drew.ownsRow w2.heap.size 88 7 (.slice (some ⟨w5.heap.size, 0, none⟩) 1 2) 1 (c7 1 s none 0 0 none 0 0 none 0 0 0 0)) := own_take (m := 1) HRW1.out (by omega) (by omega)
              have HKS := Lib.hid hkk'
              have HONE := Lib.hid (ones_of hr' hkk')
              have k11 : W6.cell? ⟨w5.heap.size, 11, none⟩ = some (.slice (some ⟨pb, 0, none⟩) pkids.length pkc) := own_cellN HRW1.out 11 _ rfl
              have g4 := HXW1.out.frozen 4
              have hW6 := HW6.out
              have HSZ : Hid (w2.heap.size ≤ w5.heap.size ∧ w1.heap.size + 1 ≤ w2.heap.size ∧ T ≤ w2.heap.size ∧ w2.heap.size ≤ w3.heap.size ∧ w3.heap.size < w5.heap.size) := ⟨by omega, HTS.out.2, HTS.out.1, by omega, by omega⟩
              have hbase : w2.heap.size ≤ W6.heap.size := by omega
              clear hr' hkk' hW6
              go_wp2_with fail
              go_region_law (refine step_append_lies _ rfl _ _ 86 rfl w2.heap.size 88 i1 _ 7 112 Try.underlying86 HJ.out.1 HJ.out.2.1 HJ.out.2.2.1 HJ.out.2.2.2 rfl (by decide) _ _ (c7 1 s none 0 0 none 0 0 none 0 0 0 0) rfl HRT.out ⟨pb, 0, none⟩ pkids.length pkc css' rfl HRK.out.1 (HRK.out.cells rfl) HONE.out (by omega) (by unfold maxLen; omega) (by omega) hbase _ rfl ?_; intro g3 cap3 w7 hown3 hgr3 hat3 hlt3; have HX7 := Lib.hid ((hgr3.block _ HXW1.out.lt (fun e => by have := HSZ.out; injection e with e; simp only at e; omega)).trans HXW1.out); have q4 : w7.cell? ⟨w3.heap.size, 4, none⟩ = some (.slice (some ⟨w5.heap.size, 0, none⟩) 2 2) := (c7_cells HX7.out).2.2.2.2.1; have q5 : w7.frozen? ⟨w3.heap.size, 4, none⟩ = false := Own.frozen HX7.out 4)
              all_goals
                have HFIN := Lib.hid (wrap_more HLW HXW1.out HRT.out HKS.out (fun b hb => ⟨hb.1, hb.2.2.1⟩) hown3 hgr3 hat3 HSZ.out.2.2.1 HSZ.out.2.1 HSZ.out.2.2.2.1 HSZ.out.2.2.2.2 (by omega) HLM.out.kid (by omega))
                clear hown3 hgr3 hat3 hlt3 q4 q5 g4 k11 x4 k0
                go_wp2_with fail
                go_meet
                exact ⟨_, HFIN.out.1, HFIN.out.2.mono (by omega)⟩
            · have hke : (pk == 5) = false := by simpa using hk5
              clear hk5
              go_wp2_with fail
              go_meet
              refine ⟨.mk 5 ⟨#[]⟩ [] [] [.mk 1 s [] [] [] 0 0, .mk pk pt plo phi pkids pmn pmx] 0 0, ⟨5, ⟨#[]⟩, [], [], [.mk 1 s [] [] [] 0 0, .mk pk pt plo phi pkids pmn pmx], 0, 0, none, none, _, 0, 0, 2, rfl, HXW1.out, OPt.ofKids (X := fun b => b ≠ w3.heap.size) (n := 2) ⟨_, HRW1.out, fun i hi => ?_⟩, lim_kids 5 _ 0 0 (by simp) fun p hp => ?_⟩, HLW.mono (by omega)⟩
              · have hi2 : i = 0 ∨ i = 1 := by simp at hi; omega
                rcases hi2 with rfl | rfl
                · exact ptC_text _ _ 1 s
                · exact HQW1.out.mono fun b hb _ => ⟨hb.1, fun e => (by have h : w5.heap.size = b := (by simpa [Value.ownBlock] using e); omega), by omega⟩
              · simp at hp
                rcases hp with rfl | rfl
                · exact lim_bare 1 s 0 0 (by omega)
                · exact HLM.out
        · go_wp2_with fail
          go_meet
          refine ⟨.mk pk pt plo phi pkids pmn pmx, ⟨pk, pt, plo, phi, pkids, pmn, pmx, PA, PC, PK, pa, pc, pkc, rfl, HX4.out, HT4.out.up (by omega), HLM.out⟩, HLX.mono (by omega)⟩
      case rest =>
        clear HLX HX4 HT4
        obtain ⟨p, ⟨k, t, lo, hi, kids, mn, mx, A, C, K, ca, cc, kc, rfl, HXO, HO, HLP⟩, HL⟩ := hcut
        obtain ⟨x0, x1, x2, x3, x4, x5, x6⟩ := c7_cells HXO
        have gv0 : wc.cell? ⟨w1.heap.size, 0, none⟩ = some (.slice a rs.length c) := by rw [HL.gv.cell]; rfl
        obtain ⟨nm, nc, hnms⟩ : ∃ nm : ByteArray, wc.cell? ⟨w.heap.size + 1, j, none⟩ = some (.string nm) ∧ nm.size ≤ 10 := by
          obtain ⟨_, _, hns, b, off, e, _, hc⟩ := HL.names (n := m + 1) (by omega) (by omega)
          injection e with e
          injection e with e1 e2
          subst e1 e2
          have hl : j < (nmList.take (m + 1)).length := by simp [nmList]; omega
          have := hc j hl
          rw [Nat.zero_add] at this
          exact ⟨_, this, hns _ (List.getElem_mem hl)⟩
        obtain ⟨xs, sf, ef, HR⟩ := HL.gr.row
        have HGR : Hid (GRow (wc.drew.alloc (.cells (.string nm :: c7 k t A lo.length ca C hi.length cc K kids.length kc mn mx).toArray 90)) (w1.heap.size + 1) T (.slice a rs.length c) rs xs sf ef) :=
          HR.keep (by simp) fun b _ hb => Below.heap_alloc wc.drew _ b (by have := HR.h6; show b < wc.heap.size; omega)
        have HOO : Hid (OPt (wc.drew.alloc (.cells (.string nm :: c7 k t A lo.length ca C hi.length cc K kids.length kc mn mx).toArray 90)) w2.heap.size wc.heap.size lo hi kids A C K ca cc kc) :=
          HO.keep fun b _ _ hb => Below.heap_alloc wc.drew _ b hb
        have HLA := HL.drew.alloc (.cells (.string nm :: c7 k t A lo.length ca C hi.length cc K kids.length kc mn mx).toArray 90)
        have hrl : rs.length ≤ 4 := by have := HRL.out; omega
        have hszc := HL.size
        have hGc := HL.hG
        have HNM : Hid (nm.size ≤ 1000 ∧ Lim 1000 (.mk k t lo hi kids mn mx)) := ⟨by omega, HLP⟩
        have hl1 : w1.heap.size < wc.heap.size := by omega
        have hl2 : w.heap.size + 1 < wc.heap.size := by omega
        have hl3 : w3.heap.size < wc.heap.size := HXO.lt
        clear HR HO HXO HL HLP
        simp only [c7] at HLA HGR HOO
        go_wp2
        go_region_law (refine step_append_lies _ rfl _ _ 62 rfl (w1.heap.size + 1) 90 i0 _ 8 128 Try.underlying62 HI.out.1 HI.out.2.1 HI.out.2.2.1 HI.out.2.2.2 rfl (by decide) _ _ xs rfl HGR.out.h1 ⟨wc.heap.size, 0, none⟩ 1 1 (.string nm :: c7 k t A lo.length ca C hi.length cc K kids.length kc mn mx) rfl rfl (new_cells wc.drew (.string nm :: c7 k t A lo.length ca C hi.length cc K kids.length kc mn mx) 90) (by intro u hu; simp [c7] at hu; rcases hu with rfl | rfl | rfl | rfl | rfl | rfl | rfl | rfl <;> rfl) (by omega) (by unfold maxLen; omega) (by omega) (by simp; omega) _ rfl ?_; intro g3 cap3 w5 hown3 hgr3 hat3 hlt3; have HP := HLA.push HGR.out (r := ⟨nm, .mk k t lo hi kids mn mx⟩) (s := w2.heap.size) (e := wc.heap.size) ⟨k, t, lo, hi, kids, mn, mx, A, C, K, ca, cc, kc, rfl, rfl, HOO.out⟩ HTS.out.1 HTS.out.2 (by simp) hown3 hgr3 hat3 HNM.out; have gk := HP.1.1; have gf := HP.1.2)
        all_goals
          have HL6 := HP.2
          clear HP gk gf hown3 hgr3 hat3 hlt3 HLA HGR HOO
          have HRL6 : Hid ((rs ++ [Ru.mk nm (.mk k t lo hi kids mn mx)]).length = j + 1) := by
            show _ = _
            rw [List.length_append, HRL.out]
            rfl
          go_wp2
          go_roundw
          case rel => exact ⟨_, _, _, _, j + 1, by go_num, by omega, HRL6, HL6⟩
          case measure => simp [intOf]; omega
    · have hlt' : ¬ (j : Int) < ((m + 1 : Nat) : Int) := by omega
      have hrl : rs.length ≤ 4 := by have := HRL.out; omega
      have hrl1 : 1 ≤ rs.length := by have := HRL.out; omega
      have gv0 : wr.cell? ⟨w1.heap.size, 0, none⟩ = some (.slice a rs.length c) := by rw [HL.gv.cell]; rfl
      have HC := Lib.hid (specGramOk_any rs a c 0 wr HL.gr.rus (by omega) (HL.lim.up (by omega)))
      have hj6 : 6500 * j ≤ 6500 * 4 := Nat.mul_le_mul_left _ (by omega)
      go_wp2_with fail
      refine HC.out.mono ?_
      rintro e w5 ⟨b, rfl, hiff, hb⟩
      clear hiff
      have HL5 := HL.grown (only_of_below hb (Nat.le_refl _) none) (fun k hk => by cases hk)
      clear HC HL gv0 hb
      have gv0 : w5.cell? ⟨w1.heap.size, 0, none⟩ = some (.slice a rs.length c) := by rw [HL5.gv.cell]; rfl
      have r0 : w5.cell? ⟨w.heap.size, 0, none⟩ = some (.slice none 0 0) := by rw [HL5.r.cell]; rfl
      have f0 := HL5.r.frozen 0
      have hlr : w.heap.size < w5.heap.size := by have := HL5.size; have := HL5.hG; omega
      cases b
      · have f1 : (w5.alloc (.cells #[.string ⟨#[115]⟩, .int .i64 1, .string ⟨#[97, 98]⟩, .slice none 0 0, .slice none 0 0, .slice none 0 0, .int .i64 0, .int .i64 0] 90)).frozen? ⟨w.heap.size, 0, none⟩ = false := (HL5.r.alloc _).frozen 0
        have r1 : (w5.alloc (.cells #[.string ⟨#[115]⟩, .int .i64 1, .string ⟨#[97, 98]⟩, .slice none 0 0, .slice none 0 0, .slice none 0 0, .int .i64 0, .int .i64 0] 90)).cell? ⟨w.heap.size, 0, none⟩ = some (.slice none 0 0) := by rw [(HL5.r.alloc _).cell]; rfl
        go_wp2
        have q0 : ((w5.setCell ⟨w.heap.size, 0, none⟩ (.slice (some ⟨w5.heap.size, 0, none⟩) 1 1)).alloc (.cells #[.string ⟨#[115]⟩, .int .i64 1, .string ⟨#[97, 98]⟩, .slice none 0 0, .slice none 0 0, .slice none 0 0, .int .i64 0, .int .i64 0] 90)).cell? ⟨w.heap.size, 0, none⟩ = some (.slice (some ⟨w5.heap.size, 0, none⟩) 1 1) := by
          rw [((HL5.r.set_ 0 (.slice (some ⟨w5.heap.size, 0, none⟩) 1 1)).alloc _).cell]; rfl
        have HD := Lib.hid (gram_else (N := N) HL5 (by omega))
        generalize (w5.setCell ⟨w.heap.size, 0, none⟩ (.slice (some ⟨w5.heap.size, 0, none⟩) 1 1)).alloc (.cells #[.string ⟨#[115]⟩, .int .i64 1, .string ⟨#[97, 98]⟩, .slice none 0 0, .slice none 0 0, .slice none 0 0, .int .i64 0, .int .i64 0] 90) = W6 at *
        exact bodyPost_ret (v := .agg #[.slice (some ⟨w5.heap.size, 0, none⟩) 1 1]) (by simp [results, Try.results36, go_sem, q0]) rfl HD.out
      · go_wp2
        have q0 : (w5.setCell ⟨w.heap.size, 0, none⟩ (.slice a rs.length c)).cell? ⟨w.heap.size, 0, none⟩ = some (.slice a rs.length c) := by
          rw [(HL5.r.set_ 0 (.slice a rs.length c)).cell]; rfl
        exact bodyPost_ret (v := .agg #[.slice a rs.length c]) (by simp [results, Try.results36, go_sem, q0]) rfl (gram_done HL5 (by omega) hrl1 hrl)

end Go.Proofs.Ytkgiklmdpdakbaa

