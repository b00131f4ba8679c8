/- The walk of the law FnExactVocText: it returns true for every vocabulary and every list of tokens, and writes nothing that was there. -/
import Derived.Test.YtcanhkngikeeiaaT3
import Derived.Test.YtcanhkngikeeiaaL7
namespace Go.Proofs.Ytcanhkngikeeiaa
open Go.RowKit
set_option linter.unusedVariables false

theorem str_same (s : ByteArray) : (s.toList == s.toList) = true := by simp

set_option maxRecDepth 100000 in
set_option maxHeartbeats 2000000 in
theorem exactVocText_walk (a : Option Addr) (c : Nat) (ss : List ByteArray) (en : Int) (I : Option Addr) (ic : Nat) (ids : List Int) (w : World) (hr : Row w a (strs ss)) (hm : ss.length ≤ maxLen) (hs : ∀ s ∈ ss, s.size ≤ maxLen)
    (hi : Row w I (ints ids)) (hil : ids.length ≤ maxLen) (hic : ids.length ≤ ic) (hiw : ∀ z ∈ ids, (Lit.int .i64 z).wf = true) :
    Calls Try.prog 15 #[.agg #[.slice a ss.length c, .int .i64 en], .slice I ids.length ic] w (True_ w) := by
  have HR := Lib.hid hr
  have HS := Lib.hid hs
  have HI := Lib.hid hi
  clear hr hs hi hiw
  have hil' := hil
  unfold maxLen at hil'
  by_cases hbig : 1048576 < ids.length
  · have hbig' : (1048576 : Int) < (ids.length : Int) := by omega
    go_enter Try.func15, Try.ntmps15
    go_wp2
    go_ret
    exact ⟨rfl, below_box _⟩
  · have hbig' : ¬ (1048576 : Int) < (ids.length : Int) := by omega
    have hil2 : ids.length ≤ 1048576 := by omega
    go_enter Try.func15, Try.ntmps15
    go_wp2_with fail
    refine (szVoc_any a c ss en 1048576 _ (HR.out.alloc _) hm HS.out (by omega) (by omega)).mono ?_
    rintro e w1 ⟨r, rfl, hz, hb⟩
    have hb1 : Below w.heap.size w w1 := (below_box _).trans (hb.mono (by simp))
    have h0 : w1.cell? ⟨w.heap.size, 0, none⟩ = some (.slice a ss.length c) := cell_keep hb (by simp)
    have h1 : w1.cell? ⟨w.heap.size, 1, none⟩ = some (.int .i64 en) := cell_keep hb (by simp)
    clear hb
    by_cases hn : r < 0
    · go_wp2
      go_ret
      exact ⟨rfl, hb1⟩
    · have hlen : ss.length ≤ 1048576 := by rcases hz with h | h <;> omega
      clear hz
      go_wp2_with fail
      refine (toVoc_any a c ss en _ (HR.out.keep hb1) hlen).mono ?_
      rintro e w2 ⟨g, rfl, hg, hown, hb⟩
      have hb2 : Below w.heap.size w w2 := hb1.trans (hb.mono hb1.size)
      replace h0 := cell_keep hb h0
      replace h1 := cell_keep hb h1
      clear hb hb1 hg
      go_wp2_with fail
      refine (toI_any I ic ids _ (HI.out.keep hb2) hil2).mono ?_
      rintro e w3 ⟨g3, rfl, hg3, ho3, hb⟩
      have hb3 : Below w.heap.size w w3 := hb2.trans (hb.mono hb2.size)
      replace h0 := cell_keep hb h0
      replace h1 := cell_keep hb h1
      replace hown := hown.keep hb
      clear hb hb2 hg3
      go_wp2_with fail
      refine (specText_any _ _ ss en _ _ ids _ hown.row ho3.row hlen hil2).mono ?_
      rintro e w4 ⟨rfl, hb⟩
      have hb4 : Below w.heap.size w w4 := hb3.trans (hb.mono hb3.size)
      replace h0 := cell_keep hb h0
      replace h1 := cell_keep hb h1
      clear hb hb3 hown ho3
      go_wp2_with fail
      refine (toVoc_any a c ss en _ (HR.out.keep hb4) hlen).mono ?_
      rintro e w5 ⟨g5, rfl, hg5, ho5, hb⟩
      have hb5 : Below w.heap.size w w5 := hb4.trans (hb.mono hb4.size)
      replace h0 := cell_keep hb h0
      replace h1 := cell_keep hb h1
      clear hb hb4 hg5
      have hx0 := Own.new w5 25 #[.slice (some ⟨g5, 0, none⟩) ss.length ss.length, .int .i64 en]
      have hb5' := hb5.alloc hb5.size (.cells #[.slice (some ⟨g5, 0, none⟩) ss.length ss.length, .int .i64 en] 25)
      replace ho5 := ho5.alloc (.cells #[.slice (some ⟨g5, 0, none⟩) ss.length ss.length, .int .i64 en] 25)
      replace h0 := cell_alloc h0 (.cells #[.slice (some ⟨g5, 0, none⟩) ss.length ss.length, .int .i64 en] 25)
      replace h1 := cell_alloc h1 (.cells #[.slice (some ⟨g5, 0, none⟩) ss.length ss.length, .int .i64 en] 25)
      clear hb5
      go_wp2_with fail
      refine (toI_any I ic ids _ (HI.out.keep hb5') hil2).mono ?_
      rintro e w6 ⟨g6, rfl, hg6, ho6, hb⟩
      have hb6 : Below w.heap.size w w6 := hb5'.trans (hb.mono hb5'.size)
      replace h0 := cell_keep hb h0
      replace h1 := cell_keep hb h1
      replace ho5 := ho5.keep hb
      replace hx0 := hx0.keep hb
      clear hb hb5' hg6
      have x0 : w6.cell? ⟨w5.heap.size, 0, none⟩ = some (.slice (some ⟨g5, 0, none⟩) ss.length ss.length) := by rw [hx0.cell]; rfl
      have x1 : w6.cell? ⟨w5.heap.size, 1, none⟩ = some (.int .i64 en) := by rw [hx0.cell]; rfl
      go_wp2_with fail
      refine (implText_any _ _ ss en _ _ ids _ ho5.row ho6.row hlen hil2).mono ?_
      rintro e w7 ⟨rfl, hb⟩
      have hb7 : Below w.heap.size w w7 := hb6.trans (hb.mono hb6.size)
      replace h0 := cell_keep hb h0
      replace h1 := cell_keep hb h1
      replace x0 := cell_keep hb x0
      replace x1 := cell_keep hb x1
      replace ho5 := ho5.keep hb
      replace ho6 := ho6.keep hb
      clear hb hb6 hx0
      generalize (vocTextR ss en ids).getD ⟨#[]⟩ = s
      generalize (vocTextR ss en ids).isSome = ok
      generalize w5.heap.size = X at x0 x1 ⊢
      have hss := str_same s
      have hok1 : (ok != ok) = false := by simp
      go_wp2
      go_region_held3 (fun W => W.cell? ⟨w.heap.size, 0, none⟩ = some (.slice a ss.length c) ∧ W.cell? ⟨w.heap.size, 1, none⟩ = some (.int .i64 en) ∧ W.cell? ⟨X, 0, none⟩ = some (.slice (some ⟨g5, 0, none⟩) ss.length ss.length) ∧ W.cell? ⟨X, 1, none⟩ = some (.int .i64 en))
        (first | exact ⟨cell_keep hb9 (cell_keep hb8 h0), cell_keep hb9 (cell_keep hb8 h1), cell_keep hb9 (cell_keep hb8 x0), cell_keep hb9 (cell_keep hb8 x1)⟩ | exact ⟨cell_keep hb8 h0, cell_keep hb8 h1, cell_keep hb8 x0, cell_keep hb8 x1⟩ | exact ⟨h0, h1, x0, x1⟩)
        (first | (go_at_call 37; refine (toVoc_any a c ss en _ (HR.out.keep hb7.drew) hlen).mono ?_; rintro e w8 ⟨g8, rfl, hg8, hown8, hb8⟩)
               | (go_at_call 38; refine (eqVoc_same _ _ _ _ ss en _ (ho5.drew.keep hb8).row hown8.row hlen).mono ?_; rintro e w9 ⟨rfl, hb9⟩))
      have hb8' : Below w.heap.size w w8 := hb7.drew.trans (hb8.mono hb7.drew.size)
      have hb9' : Below w.heap.size w w9 := hb8'.trans (hb9.mono hb8'.size)
      have ho9 := (ho6.drew.keep hb8).keep hb9
      clear hb7 hb8 hb8' hb9 ho5 ho6 hown8 h0 h1 x0 x1
      go_wp2_with fail
      refine (toI_any I ic ids _ (HI.out.keep hb9') hil2).mono ?_
      rintro e w10 ⟨g10, rfl, hg10, ho10, hb⟩
      have hb10 : Below w.heap.size w w10 := hb9'.trans (hb.mono hb9'.size)
      replace ho9 := ho9.keep hb
      clear hb
      go_wp2_with fail
      refine (eqIntS_same _ _ _ _ ids _ ho9.row ho10.row hil2).mono ?_
      rintro e w11 ⟨rfl, hb⟩
      go_wp2
      go_ret
      exact ⟨rfl, hb10.trans (hb.mono hb10.size)⟩

end Go.Proofs.Ytcanhkngikeeiaa
