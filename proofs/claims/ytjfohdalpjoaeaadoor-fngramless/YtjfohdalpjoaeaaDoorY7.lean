/- A grammar is spoilt, plainly: what stays of its rules while one part turns. -/
import Derived.Test.YtjfohdalpjoaeaaDoorY6
namespace Go.Proofs.YtjfohdalpjoaeaaDoor
open Go.RowKit
set_option linter.unusedVariables false

theorem OPt.ptC {w : World} {s e : Nat} {lo hi : List Int} {kids : List Pt} {A B K : Option Addr} {ca cb kc : Nat} (h : OPt w s e lo hi kids A B K ca cb kc) (k : Int) (t : ByteArray) (mn mx : Int) :
    PtC w (fun b => s ≤ b ∧ b < e) (c7 k t A lo.length ca B hi.length cb K kids.length kc mn mx) (.mk k t lo hi kids mn mx) := by
  obtain ⟨css, hr, hk⟩ := h.ks
  have rowA : lo ≠ [] → ∀ x, A = some x → s ≤ x.block ∧ x.block < e := fun _ x hx => by
    subst hx; exact ⟨(h.a.lt _ rfl).1, h.ea _ rfl⟩
  have rowB : hi ≠ [] → ∀ x, B = some x → s ≤ x.block ∧ x.block < e := fun _ x hx => by
    subst hx; exact ⟨(h.b.lt _ rfl).1, h.eb _ rfl⟩
  by_cases h0 : kids = []
  · subst h0
    exact .mk k t lo hi [] mn mx A B K ca cb kc 0 0 (fun _ => []) (own_rowN h.a) (own_rowN h.b) rowA rowB (fun e => (e rfl).elim) (fun i hi => absurd hi (by simp)) (fun i hi => absurd hi (by simp)) (fun i hi => absurd hi (by simp))
  · obtain ⟨g, cap, eK, hge, _⟩ := own_some hr (List.length_pos_iff.2 h0)
    injection eK with e1 e2 e3
    subst e1 e3
    have hl := hr.1
    refine .mk k t lo hi kids mn mx A B _ ca cb kc g 0 (sev css) (own_rowN h.a) (own_rowN h.b) rowA rowB (fun _ => ⟨rfl, hge, h.ek _ rfl⟩) (fun i hi => sev_len (by rw [hl]; omega)) (fun i hi j u hu => ?_) fun i hi => (hk i hi).mono fun b hb _ => ⟨hb.1, hb.2.2.1⟩
    have hj : j < 7 := by
      have := (List.getElem?_eq_some_iff.1 hu).1
      rw [sev_len (by rw [hl]; omega)] at this
      exact this
    rw [sev_get hj] at hu
    rw [Nat.zero_add]
    exact own_cellN hr _ u hu

/-- One of some texts is drawn. -/
def OfPost (w : World) (B g N : Nat) (ss : List ByteArray) (e : Ending) (w' : World) : Prop := ∃ s : ByteArray, e = .returned (.string s) ∧ s ∈ ss ∧ Rd w' B g (N + 1) ∧ w.grownBy w' (some g)
set_option maxRecDepth 100000 in
set_option maxHeartbeats 1000000 in
theorem of_any (B g N b off c : Nat) (ss : List ByteArray) (w : World) (hrd : Rd w B g N) (hN : N ≤ 60000) (h0 : 0 < ss.length) (h1 : ss.length ≤ 100) (hne : b ≠ g) (hc : ∀ i (h : i < ss.length), w.cell? ⟨b, off + i, none⟩ = some (.string ss[i])) :
    Calls Tryd.prog 29 #[.pointer (some ⟨g, 0, none⟩), .slice (some ⟨b, off, none⟩) ss.length c] w (OfPost w B g N ss) := by
  have HC := Lib.hid hc
  clear hc
  go_enter Tryd.func29, Tryd.ntmps29
  go_wp2_with fail
  refine (pick_any B g N ss.length w hrd (by omega) (by omega) (by omega)).mono ?_
  rintro e w1 ⟨v, rfl, hv0, hv1, hrd1, hg1⟩
  have hvn : v.toNat < ss.length := by rcases hv1 with h | h <;> omega
  have hvi : v < (ss.length : Int) := by omega
  have hcell := HC.out v.toNat hvn
  have hc1 : w1.cell? ⟨b, off + v.toNat, none⟩ = some (.string ss[v.toNat]) := by
    rw [World.cell?_of_block (w := w) (hg1.block b (cell_lt hcell) (fun e => hne (by injection e)))]; exact hcell
  have HM := Lib.hid (List.getElem_mem hvn)
  clear hcell hv1
  generalize ss[v.toNat] = s at *
  go_wp2
  go_ret
  exact ⟨s, rfl, HM.out, hrd1, hg1⟩

end Go.Proofs.YtjfohdalpjoaeaaDoor
