/- A grammar is drawn, one in two spoilt: DrawGramOk. -/
import Derived.Test.YtjfohdalpjoaeaaDoorY8
namespace Go.Proofs.YtjfohdalpjoaeaaDoor
open Go.RowKit
set_option linter.unusedVariables false

theorem RC.ofGR {w : World} {base T c : Nat} {a : Option Addr} {rs : List Ru} (h : GR w base T (.slice a rs.length c) rs) (h1 : 1 ≤ rs.length) {B0 : Nat} (hB : B0 ≤ base) : RC w B0 a rs := by
  obtain ⟨xs, sf, ef, h1, h2, h3, h4, h5, h6⟩ := h
  obtain ⟨Rb, cap, ev, hge, _⟩ := own_some h1 (by omega)
  injection ev with e1 e2 e3
  subst e1 e3
  have hl := h1.1
  refine ⟨Rb, rfl, by omega, fun i hi => ?_⟩
  obtain ⟨kk, t, lo, hi', kids, mn, mx, A, C, K, ca, cc, kc, q1, q2, q3⟩ := h2 i hi
  have get : ∀ j u, j < 8 → (eig xs i)[j]? = some u → w.cell? ⟨Rb, i * 8 + j, none⟩ = some u := fun j u hj hu => by
    rw [eig_get hj] at hu
    exact own_cellN h1 _ u hu
  rw [q1] at get
  refine ⟨c7 kk t A lo.length ca C hi'.length cc K kids.length kc mn mx, get 0 _ (by omega) rfl, fun j u hu => ?_, ?_⟩
  · have hj : j < 7 := (List.getElem?_eq_some_iff.1 hu).1
    rw [show i * 8 + 1 + j = i * 8 + (j + 1) by omega]
    exact get (j + 1) u (by omega) (by simpa using hu)
  · rw [q2]
    exact (q3.ptC kk t mn mx).mono fun b hb _ => by have := (h3 i hi).1; omega

theorem GR.cap {w : World} {base T c : Nat} {a : Option Addr} {rs : List Ru} (h : GR w base T (.slice a rs.length c) rs) : rs.length ≤ c := by
  obtain ⟨xs, sf, ef, h1, _⟩ := h
  exact own_cap h1

def DrawPost (w : World) (e : Ending) (w' : World) : Prop :=
  ∃ (rs : List Ru) (a : Option Addr) (c : Nat), e = .returned (.agg #[.slice a rs.length c]) ∧ Rus w' 0 a rs ∧ LimR 5000 rs ∧ rs.length ≤ 100 ∧ rs.length ≤ c ∧ Below w.heap.size w w'

theorem draw_done {w0 w : World} {a : Option Addr} {c : Nat} {rs : List Ru} (hr : RC w (w0.heap.size + 1) a rs) (hl : LimR 5000 rs) (hn : rs.length ≤ 100) (hc : rs.length ≤ c) (hb : Below w0.heap.size w0 w) :
    DrawPost w0 (.returned (.agg #[.slice a rs.length c])) (w.setCell ⟨w0.heap.size, 0, none⟩ (.slice a rs.length c)) :=
  ⟨rs, a, c, rfl, (hr.mv fun b hb _ => Below.heap_setCell _ _ _ b (by show b ≠ w0.heap.size; omega)).rus, hl, hn, hc, hb.setCell (Nat.le_refl _) _⟩

set_option maxRecDepth 100000 in
set_option maxHeartbeats 2000000 in
theorem drawGramOk_any (C : Option Addr) (ccap : Nat) (zs : List Int) (w : World) (hrow : Row w C (byts zs)) (hz : zs.length ≤ 1048576) (hcap : zs.length ≤ ccap) (hzs : ∀ z ∈ zs, 0 ≤ z ∧ z ≤ 255) :
    Calls Tryd.prog 5 #[.slice C zs.length ccap] w (DrawPost w) := by
  have HR := Lib.hid (hrow.alloc (.cells #[.slice none 0 0] 25))
  have HZ := Lib.hid hzs
  clear hrow hzs
  go_enter Tryd.func5, Tryd.ntmps5
  go_wp2_with fail
  refine (open_any C ccap zs _ HR.out hz hcap HZ.out).mono ?_
  rintro e w1 ⟨g, rfl, hg, hrd, hb1⟩
  have hgl := hrd.lt
  simp only [World.size_alloc] at hg hb1
  have HRr : Hid (Own w1 w.heap.size 25 [.slice none 0 0]) := Own.below (Own.new w 25 #[.slice none 0 0]) hb1 (by omega)
  have HB1 : Hid (Below w.heap.size w w1) := (below_box _).trans (hb1.mono (by omega))
  have hs1 := HB1.out.size
  go_wp2_with fail
  refine (gram_any (g + 1) g 0 w1 hrd (by omega) (by omega)).mono ?_
  rintro e w2 ⟨rs, a, c, T, rfl, hgr, h1, h4, hl, hrd2, hg2⟩
  have hs2 := hg2.size
  have HR2 := Lib.hid (own_touch HRr.out hg2 (by omega))
  have HB2 : Hid (Below w.heap.size w w2) := HB1.out.grown hg2 (by omega) (fun q hq => by injection hq with hq; omega)
  have HGR2 := Lib.hid (hgr.keep (w' := w2.alloc (.cells #[.slice a rs.length c] 25)) (by simp) fun b _ hb => Below.heap_alloc w2 _ b (by have := hgr.top; omega))
  have HV : Hid (Own (w2.alloc (.cells #[.slice a rs.length c] 25)) w2.heap.size 25 [.slice a rs.length c]) := Own.new w2 25 #[.slice a rs.length c]
  have hgt := hgr.top
  have hrd3 := hrd2.alloc (by omega) (.cells #[.slice a rs.length c] 25)
  have HLR := Lib.hid hl
  clear hrd hb1 HRr HB1 hgr hrd2 hg2 hl
  go_wp2_with fail
  refine (pick_any (g + 1) g _ 2 _ hrd3 (by omega) (by omega) (by omega)).mono ?_
  rintro e w3 ⟨x, rfl, hx0, hx1, hrd4, hg4⟩
  have hs3 := hg4.size
  simp only [World.size_alloc] at hs3
  have HGR3 := Lib.hid (HGR2.out.keep (w' := w3) hg4.size fun b hb hl => hg4.block b (by simp; omega) (fun q => by injection q with q; omega))
  have HV3 := Lib.hid (own_touch HV.out hg4 (by omega))
  have HR3 := Lib.hid (own_touch (HR2.out.alloc _) hg4 (by omega))
  have HB3 : Hid (Below w.heap.size w w3) := (HB2.out.alloc (by omega) _).grown hg4 (by simp; omega) (fun q hq => by injection hq with hq; omega)
  have v0 : w3.cell? ⟨w2.heap.size, 0, none⟩ = some (.slice a rs.length c) := by rw [HV3.out.cell]; rfl
  have r0 : w3.cell? ⟨w.heap.size, 0, none⟩ = some (.slice none 0 0) := by rw [HR3.out.cell]; rfl
  have f0 := HR3.out.frozen 0
  clear hg4 HGR2 HR2 HB2 HV hrd3
  by_cases hx : x = 0
  · have hxe : (x == 0) = true := by simp [hx]
    clear hx
    go_wp2_with fail
    refine (spoil_any (w.heap.size + 1) (g + 1) g _ w1.heap.size T rs a c w3 hrd4 (by omega) HGR3.out h1 h4 HLR.out ⟨by omega, by omega, by omega, by omega⟩).mono ?_
    rintro e w4 ⟨rs4, a4, c4, rfl, hr4, hl4, hn4, hc4, hb4⟩
    have HR4 := Lib.hid (Own.below HR3.out hb4 (by omega))
    have r1 : w4.cell? ⟨w.heap.size, 0, none⟩ = some (.slice none 0 0) := by rw [HR4.out.cell]; rfl
    have f1 := HR4.out.frozen 0
    have HD := Lib.hid (draw_done (c := c4) hr4 hl4 hn4 hc4 (HB3.out.trans (hb4.mono (by omega))))
    have HR5 := Lib.hid (HR4.out.set_ 0 (.slice a4 rs4.length c4))
    clear v0 r0 f0 hr4 hl4 hb4
    go_wp2
    have q0 : (w4.setCell ⟨w.heap.size, 0, none⟩ (.slice a4 rs4.length c4)).cell? ⟨w.heap.size, 0, none⟩ = some (.slice a4 rs4.length c4) := by rw [HR5.out.cell]; rfl
    exact bodyPost_ret (v := .agg #[.slice a4 rs4.length c4]) (by simp [results, Tryd.results5, go_sem, q0]) rfl HD.out
  · have hxe : (x == 0) = false := by simpa using hx
    clear hx
    have HD := Lib.hid (draw_done (w := w3) (c := c) (RC.ofGR HGR3.out h1 (by omega)) (HLR.out.up (by omega)) (by omega) HGR3.out.cap HB3.out)
    have HR5 := Lib.hid (HR3.out.set_ 0 (.slice a rs.length c))
    go_wp2
    have q0 : (w3.setCell ⟨w.heap.size, 0, none⟩ (.slice a rs.length c)).cell? ⟨w.heap.size, 0, none⟩ = some (.slice a rs.length c) := by rw [HR5.out.cell]; rfl
    exact bodyPost_ret (v := .agg #[.slice a rs.length c]) (by simp [results, Tryd.results5, go_sem, q0]) rfl HD.out

end Go.Proofs.YtjfohdalpjoaeaaDoor
