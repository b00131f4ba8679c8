/- The walk of the law FnExactVocOk: it returns true for every vocabulary, and writes nothing that was there. -/
import Derived.Test.YtcanhkngikeeiaaW4
namespace Go.Proofs.Ytcanhkngikeeiaa
open Go.RowKit
set_option linter.unusedVariables false

set_option maxHeartbeats 1000000 in
theorem exactVocOk_walk (a : Option Addr) (c : Nat) (ss : List ByteArray) (en : Int) (w : World) (hr : Row w a (strs ss)) (hm : ss.length ≤ maxLen) (hs : ∀ s ∈ ss, s.size ≤ maxLen) :
    Calls Try.prog 14 #[.agg #[.slice a ss.length c, .int .i64 en]] w (True_ w) := by
  have HR := Lib.hid hr
  have HS := Lib.hid hs
  clear hr hs
  go_enter Try.func14, Try.ntmps14
  go_wp2_with fail
  refine (szVoc_any a c ss en 1048576 _ (HR.out.keep (below_box _)) hm HS.out (by omega) (by omega)).mono ?_
  rintro e w1 ⟨r, rfl, hz, hb⟩
  have hb1 : Below w.heap.size w w1 := (below_box _).trans (hb.mono (by simp))
  have h0 : w1.cell? ⟨w.heap.size, 0, none⟩ = some (.slice a ss.length c) := cell_keep hb (by simp)
  have h1 : w1.cell? ⟨w.heap.size, 1, none⟩ = some (.int .i64 en) := cell_keep hb (by simp)
  clear hb
  by_cases hn : r < 0
  · go_wp2
    go_ret
    exact ⟨rfl, hb1⟩
  · have hlen : ss.length ≤ 1048576 := by rcases hz with h | h <;> omega
    clear hz
    go_wp2_with fail
    refine (toVoc_any a c ss en _ (HR.out.keep hb1) hlen).mono ?_
    rintro e w2 ⟨g, rfl, hg, hown, hb⟩
    have hb2 : Below w.heap.size w w2 := hb1.trans (hb.mono hb1.size)
    replace h0 := cell_keep hb h0
    replace h1 := cell_keep hb h1
    clear hb hb1 hg
    go_wp2_with fail
    refine (specOk_any _ _ ss en _ hown.row hlen).mono ?_
    rintro e w3 ⟨rfl, hb⟩
    have hb3 : Below w.heap.size w w3 := hb2.trans (hb.mono hb2.size)
    replace h0 := cell_keep hb h0
    replace h1 := cell_keep hb h1
    clear hb hb2 hown
    go_wp2_with fail
    refine (toVoc_any a c ss en _ (HR.out.keep hb3) hlen).mono ?_
    rintro e w4 ⟨g4, rfl, hg4, hown, hb⟩
    have hb4 : Below w.heap.size w w4 := hb3.trans (hb.mono hb3.size)
    replace h0 := cell_keep hb h0
    replace h1 := cell_keep hb h1
    clear hb hb3 hg4
    go_wp2_with fail
    refine (implOk_any _ _ ss en _ (hown.alloc _).row hlen).mono ?_
    rintro e w5 ⟨rfl, hb⟩
    have hb5 : Below w.heap.size w w5 := (hb4.alloc hb4.size _).trans (hb.mono (by simp; have := hb4.size; omega))
    replace h0 := cell_keep hb (v := .slice a ss.length c) (p := ⟨w.heap.size, 0, none⟩) (cell_alloc h0 _)
    replace h1 := cell_keep hb (v := .int .i64 en) (p := ⟨w.heap.size, 1, none⟩) (cell_alloc h1 _)
    have x0 := cell_keep hb (v := .slice (some ⟨g4, 0, none⟩) ss.length ss.length) (p := ⟨w4.heap.size, 0, none⟩) (by simp)
    have x1 := cell_keep hb (v := .int .i64 en) (p := ⟨w4.heap.size, 1, none⟩) (by simp)
    replace hown := (hown.alloc _).keep hb
    clear hb hb4
    go_wp2
    go_region_held3 (fun W => W.cell? ⟨w.heap.size, 0, none⟩ = some (.slice a ss.length c) ∧ W.cell? ⟨w.heap.size, 1, none⟩ = some (.int .i64 en) ∧ W.cell? ⟨w4.heap.size, 0, none⟩ = some (.slice (some ⟨g4, 0, none⟩) ss.length ss.length) ∧ W.cell? ⟨w4.heap.size, 1, none⟩ = some (.int .i64 en))
      (first | exact ⟨cell_keep hb7 (cell_keep hb6 h0), cell_keep hb7 (cell_keep hb6 h1), cell_keep hb7 (cell_keep hb6 x0), cell_keep hb7 (cell_keep hb6 x1)⟩ | exact ⟨cell_keep hb6 h0, cell_keep hb6 h1, cell_keep hb6 x0, cell_keep hb6 x1⟩ | exact ⟨h0, h1, x0, x1⟩)
      (first | (go_at_call 37; refine (toVoc_any a c ss en _ (HR.out.keep hb5.drew) hlen).mono ?_; rintro e w6 ⟨g6, rfl, hg6, hown6, hb6⟩)
             | (go_at_call 38; refine (eqVoc_same _ _ _ _ ss en _ (hown.drew.keep hb6).row hown6.row hlen).mono ?_; rintro e w7 ⟨rfl, hb7⟩))
    go_wp2
    go_ret
    exact ⟨rfl, (hb5.drew.trans (hb6.mono hb5.drew.size)).trans (hb7.mono (Nat.le_trans hb5.drew.size hb6.size))⟩

end Go.Proofs.Ytcanhkngikeeiaa
