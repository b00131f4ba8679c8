/- The walk of the law FnExactCfgOk: it returns true for all productions, and writes nothing that was there. -/
import Derived.Test.YtojoncppdjmccaaC6
namespace Go.Proofs.Ytojoncppdjmccaa
open Go.RowKit
set_option linter.unusedVariables false

set_option maxRecDepth 100000 in
set_option maxHeartbeats 1000000 in
theorem exactCfgOk_walk (a : Option Addr) (c : Nat) (ps : List Pd) (hd : Int) (w : World) (hr : Pds w a ps) (hm : ps.length ≤ maxLen) (hs : ∀ p ∈ ps, p.body.length ≤ maxLen) :
    Calls Try.prog 3 #[.agg #[.int .i64 hd, .slice a ps.length c]] w (True_ w) := by
  have HR := Lib.hid hr
  have HS := Lib.hid hs
  clear hr hs
  go_enter Try.func3, Try.ntmps3
  go_wp2_with fail
  refine (szCfg_any a c ps hd 1048576 _ (HR.out.keep (below_box _)) hm HS.out (by omega) (by omega)).mono ?_
  rintro e w1 ⟨r, rfl, hz, hb⟩
  have hb1 : Below w.heap.size w w1 := (below_box _).trans (hb.mono (by simp))
  have h0 : w1.cell? ⟨w.heap.size, 0, none⟩ = some (.int .i64 hd) := cell_keep hb (by simp)
  have h1 : w1.cell? ⟨w.heap.size, 1, none⟩ = some (.slice a ps.length c) := cell_keep hb (by simp)
  clear hb
  by_cases hn : r < 0
  · go_wp2
    go_ret
    exact ⟨rfl, hb1⟩
  · have hlen : ps.length ≤ 1048576 := by rcases hz with h | h <;> omega
    have HSM : Hid (Small ps) := by rcases hz with h | h; · omega
                                    · exact h.2.2
    clear hz
    go_wp2_with fail
    refine (toCfg_any a c hd ps _ (HR.out.keep hb1) hlen HSM.out).mono ?_
    rintro e w2 ⟨g, bs, rfl, hg, hown, hb⟩
    have hb2 : Below w.heap.size w w2 := hb1.trans (hb.mono hb1.size)
    replace h0 := cell_keep hb h0
    replace h1 := cell_keep hb h1
    clear hb hb1 hg
    go_wp2_with fail
    refine (specOk_any hd ps _ _ _ hown.pds hlen HSM.out).mono ?_
    rintro e w3 ⟨rfl, hb⟩
    have hb3 : Below w.heap.size w w3 := hb2.trans (hb.mono hb2.size)
    replace h0 := cell_keep hb h0
    replace h1 := cell_keep hb h1
    clear hb hb2 hown
    go_wp2_with fail
    refine (toCfg_any a c hd ps _ (HR.out.keep hb3) hlen HSM.out).mono ?_
    rintro e w4 ⟨g4, bs4, rfl, hg4, hown, hb⟩
    have hb4 : Below w.heap.size w w4 := hb3.trans (hb.mono hb3.size)
    replace h0 := cell_keep hb h0
    replace h1 := cell_keep hb h1
    clear hb hb3 hg4
    go_wp2_with fail
    refine (implOk_any hd ps _ _ _ (hown.alloc _).pds hlen HSM.out).mono ?_
    rintro e w5 ⟨rfl, hb⟩
    have hb5 : Below w.heap.size w w5 := (hb4.alloc hb4.size _).trans (hb.mono (by simp; have := hb4.size; omega))
    replace h0 := cell_keep hb (v := .int .i64 hd) (p := ⟨w.heap.size, 0, none⟩) (cell_alloc h0 _)
    replace h1 := cell_keep hb (v := .slice a ps.length c) (p := ⟨w.heap.size, 1, none⟩) (cell_alloc h1 _)
    have x0 := cell_keep hb (v := .int .i64 hd) (p := ⟨w4.heap.size, 0, none⟩) (by simp)
    have x1 := cell_keep hb (v := .slice (some ⟨g4, 0, none⟩) ps.length ps.length) (p := ⟨w4.heap.size, 1, none⟩) (by simp)
    have HOW := Lib.hid ((hown.alloc _).keep hb)
    clear hb hb4 hown
    go_wp2
    go_region_held3 (fun W => W.cell? ⟨w.heap.size, 0, none⟩ = some (.int .i64 hd) ∧ W.cell? ⟨w.heap.size, 1, none⟩ = some (.slice a ps.length c) ∧ W.cell? ⟨w4.heap.size, 0, none⟩ = some (.int .i64 hd) ∧ W.cell? ⟨w4.heap.size, 1, none⟩ = some (.slice (some ⟨g4, 0, none⟩) ps.length ps.length))
      (first | exact ⟨cell_keep hb7 (cell_keep hb6 h0), cell_keep hb7 (cell_keep hb6 h1), cell_keep hb7 (cell_keep hb6 x0), cell_keep hb7 (cell_keep hb6 x1)⟩ | exact ⟨cell_keep hb6 h0, cell_keep hb6 h1, cell_keep hb6 x0, cell_keep hb6 x1⟩ | exact ⟨h0, h1, x0, x1⟩)
      (first | (go_at_call 8; refine (toCfg_any a c hd ps _ (HR.out.keep hb5.drew) hlen HSM.out).mono ?_; rintro e w6 ⟨g6, bs6, rfl, hg6, hown6, hb6⟩)
             | (go_at_call 10; refine (eqCfg_same _ _ _ _ hd ps _ (HOW.out.drew.keep hb6).pds hown6.pds hlen HSM.out).mono ?_; rintro e w7 ⟨rfl, hb7⟩))
    go_wp2
    go_ret
    exact ⟨rfl, (hb5.drew.trans (hb6.mono hb5.drew.size)).trans (hb7.mono (Nat.le_trans hb5.drew.size hb6.size))⟩

end Go.Proofs.Ytojoncppdjmccaa
