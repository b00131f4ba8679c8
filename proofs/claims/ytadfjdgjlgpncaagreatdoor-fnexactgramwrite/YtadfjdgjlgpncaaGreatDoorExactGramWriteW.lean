/- The walk of the law FnExactGramWrite: it returns true for all grammars, and writes nothing that was there. -/
import Derived.Test.YtadfjdgjlgpncaaGreatDoorW14
namespace Go.Proofs.YtadfjdgjlgpncaaGreatDoor
open Go.RowKit
set_option linter.unusedVariables false

def True_ (w : World) (e : Ending) (w' : World) : Prop := e = .returned (.bool true) ∧ Below w.heap.size w w'

set_option maxRecDepth 100000 in
set_option maxHeartbeats 2000000 in
theorem exactGramWrite_walk (a : Option Addr) (c : Nat) (rs : List Ru) (w : World) (hr : Rus w 0 a rs) (hm : rs.length ≤ maxLen) (hl : LimR maxLen rs) :
    Calls Tryz.prog 8 #[.agg #[.slice a rs.length c]] w (True_ w) := by
  have HR := Lib.hid hr
  have HL := Lib.hid hl
  have HC0 := Lib.hid (szGram_any rs a c 0 1048576 (w.alloc (.cells #[.slice a rs.length c] 45)) (hr.keep (below_box _)) hm hl (by omega) (by omega))
  clear hr hl
  go_enter Tryz.func8, Tryz.ntmps8
  go_wp2_with fail
  refine HC0.out.mono ?_
  rintro e w1 ⟨r, rfl, _, hz, hb⟩
  have hb1 : Below w.heap.size w w1 := (below_box _).trans (hb.mono (by simp))
  have h0 : w1.cell? ⟨w.heap.size, 0, none⟩ = some (.slice a rs.length c) := cell_keep hb (by simp)
  clear hb HC0
  by_cases hn : r < 0
  · go_wp2
    go_ret
    exact ⟨rfl, hb1⟩
  · have hS : rs.length ≤ 1048576 ∧ LimR 1048576 rs := by rcases hz with h | h; · omega
                                                          · exact h.2
    have hlen := hS.1
    have HS := Lib.hid hS.2
    clear hz hS
    have z1 := cell_lt h0
    simp only at z1
    go_wp2_with fail
    refine (toGram_any rs a c 0 _ (HR.out.keep hb1) hlen HS.out).mono ?_
    rintro e w2 ⟨A2, rfl, hA2, hb⟩
    have hb2 : Below w.heap.size w w2 := hb1.trans (hb.mono hb1.size)
    replace h0 := cell_keep hb h0
    have z2 := cell_lt h0
    simp only at z2
    have HA2 := Lib.hid hA2
    clear hb hb1 hA2 z1
    go_wp2_with fail
    refine (specWrite_any rs A2 rs.length _ _ HA2.out hlen HS.out).mono ?_
    rintro e w3 ⟨q1, rfl, hq1, hq1n, hb⟩
    have hb3 : Below w.heap.size w w3 := hb2.trans (hb.mono hb2.size)
    replace h0 := cell_keep hb h0
    have z3 := cell_lt h0
    simp only at z3
    have HQ1 := Lib.hid (And.intro hq1 hq1n)
    clear hb hb2 HA2 hq1 hq1n z2
    go_wp2_with fail
    refine (toGram_any rs a c 0 _ (HR.out.keep hb3) hlen HS.out).mono ?_
    rintro e w4 ⟨A4, rfl, hA4, hb⟩
    have hb4 : Below w.heap.size w w4 := hb3.trans (hb.mono hb3.size)
    replace h0 := cell_keep hb h0
    have z4 := cell_lt h0
    simp only at z4
    have hbx : Below w4.heap.size w4 (w4.alloc (.cells #[.slice A4 rs.length rs.length] 25)) := below_box _
    have HA4 := Lib.hid (hA4.keep hbx)
    have H5 := Lib.hid (implWrite_any rs A4 rs.length _ (w4.alloc (.cells #[.slice A4 rs.length rs.length] 25)) (hA4.keep hbx) hlen HS.out)
    have HB4 := Lib.hid (hb4.trans (hbx.mono hb4.size))
    have HH := Lib.hid (cell_keep hbx h0)
    have HX : Hid ((w4.alloc (.cells #[.slice A4 rs.length rs.length] 25)).cell? ⟨w4.heap.size, 0, none⟩ = some (.slice A4 rs.length rs.length)) := by show _ = _; simp
    clear hb hb3 hb4 hbx hA4 z3
    go_wp2_with fail
    generalize w4.alloc (.cells #[.slice A4 rs.length rs.length] 25) = W4 at *
    refine H5.out.mono ?_
    rintro e w5 ⟨q2, rfl, hq2, hq2n, hb⟩
    have hb5 : Below w.heap.size w w5 := HB4.out.trans (hb.mono HB4.out.size)
    have h0' := cell_keep hb HH.out
    have x0 := cell_keep hb HX.out
    have HQ2 := Lib.hid (And.intro hq2 hq2n)
    have HA5 := Lib.hid (HA4.out.keep hb)
    have z5 := cell_lt h0'
    have z6 := cell_lt x0
    simp only at z5 z6
    clear hb hq2 hq2n H5 HA4 HB4 HH HX h0
    have hqq : q2 = q1 := by
      have a1 := HQ1.out
      have a2 := HQ2.out
      by_cases h : GramP rs ∧ (gramT rs).length ≤ 4000
      · exact bl_inj ((a2.1 h).trans (a1.1 h).symm)
      · exact bl_inj ((a2.2 h).trans (a1.2 h).symm)
    subst hqq
    have HB5 := Lib.hid hb5
    clear hb5
    go_wp2
    go_region_held3 (fun W => W.cell? ⟨w.heap.size, 0, none⟩ = some (.slice a rs.length c) ∧ W.cell? ⟨w4.heap.size, 0, none⟩ = some (.slice A4 rs.length rs.length))
      (first | exact ⟨cell_keep hb7 (cell_keep hb6 h0'), cell_keep hb7 (cell_keep hb6 x0)⟩ | exact ⟨cell_keep hb6 h0', cell_keep hb6 x0⟩ | exact ⟨h0', x0⟩)
      (first | (go_at_call 21; refine (toGram_any rs a c 0 _ (HR.out.keep HB5.out.drew) hlen HS.out).mono ?_; rintro e w6 ⟨A6, rfl, hA6, hb6⟩)
             | (go_at_call 22; refine (eqGram_any rs A4 A6 rs.length rs.length _ _ _ ((HA5.out.keep (Below.refl _ _).drew).keep hb6) hA6 hlen HS.out).mono ?_; rintro e w7 ⟨rfl, hb7⟩))
    have hb8 := (HB5.out.drew.trans (hb6.mono HB5.out.drew.size)).trans (hb7.mono (Nat.le_trans HB5.out.drew.size hb6.size))
    go_wp2
    go_ret
    exact ⟨rfl, hb8⟩

end Go.Proofs.YtadfjdgjlgpncaaGreatDoor
