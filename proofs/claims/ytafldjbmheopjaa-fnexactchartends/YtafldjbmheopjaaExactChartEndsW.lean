/- The walk of the law FnExactChartEnds: it returns true for all productions and charts, and writes nothing that was there. -/
import Derived.Test.YtafldjbmheopjaaG8
namespace Go.Proofs.Ytafldjbmheopjaa
open Go.RowKit
set_option linter.unusedVariables false

set_option maxRecDepth 100000 in
set_option maxHeartbeats 4000000 in
theorem exactChartEnds_walk (a : Option Addr) (c : Nat) (ps : List Pd) (hd : Int) (A : Option Addr) (C : Nat) (ts : List (List Sy)) (w : World) (hr : Pds w a ps) (hm : ps.length ≤ maxLen) (hs : ∀ p ∈ ps, p.body.length ≤ maxLen) (ht : Sts w A ts) (htm : ts.length ≤ maxLen) (hts : ∀ t ∈ ts, t.length ≤ maxLen) :
    Calls Try.prog 3 #[.agg #[.int .i64 hd, .slice a ps.length c], .agg #[.slice A ts.length C]] w (True_ w) := by
  have hb0 : Below w.heap.size w ((w.alloc (.cells #[.int .i64 hd, .slice a ps.length c] 24)).alloc (.cells #[.slice A ts.length C] 27)) := (below_box _).alloc (by simp) _
  have HR := Lib.hid hr
  have HT := Lib.hid ht
  have HS := Lib.hid hs
  have HTS := Lib.hid hts
  clear hr hs ht hts
  have h0 : ((w.alloc (.cells #[.int .i64 hd, .slice a ps.length c] 24)).alloc (.cells #[.slice A ts.length C] 27)).cell? ⟨w.heap.size, 0, none⟩ = some (.int .i64 hd) := by simp
  have h1 : ((w.alloc (.cells #[.int .i64 hd, .slice a ps.length c] 24)).alloc (.cells #[.slice A ts.length C] 27)).cell? ⟨w.heap.size, 1, none⟩ = some (.slice a ps.length c) := by simp
  have h2 : ((w.alloc (.cells #[.int .i64 hd, .slice a ps.length c] 24)).alloc (.cells #[.slice A ts.length C] 27)).cell? ⟨w.heap.size + 1, 0, none⟩ = some (.slice A ts.length C) := by simp
  go_enter Try.func3, Try.ntmps3
  go_wp2_with fail
  generalize (w.alloc (.cells #[.int .i64 hd, .slice a ps.length c] 24)).alloc (.cells #[.slice A ts.length C] 27) = W at *
  refine (szCfgB_any a c ps hd 1048576 _ (HR.out.keep hb0) hm HS.out (by omega) (by omega)).mono ?_
  rintro e w1 ⟨r, rfl, hr1, hz, hb⟩
  have hb1 : Below w.heap.size w w1 := hb0.trans (hb.mono hb0.size)
  replace h0 := cell_keep hb h0
  replace h1 := cell_keep hb h1
  replace h2 := cell_keep hb h2
  clear hb hb0
  by_cases hn : r < 0
  · go_wp2
    go_ret
    exact ⟨rfl, hb1⟩
  · have hlen : ps.length ≤ 1048576 := by rcases hz with h | h <;> omega
    have HSM : Hid (Small ps) := by
      rcases hz with h | h
      · omega
      · exact h.2.2
    clear hz
    have SZ := Lib.hid (szChart_any A C ts r w1 (HT.out.keep hb1) htm HTS.out (by omega) hr1)
    go_wp2_with fail
    refine SZ.out.mono ?_
    rintro e w2 ⟨r2, rfl, hz2, hb⟩
    have hb2 : Below w.heap.size w w2 := hb1.trans (hb.mono hb1.size)
    replace h0 := cell_keep hb h0
    replace h1 := cell_keep hb h1
    replace h2 := cell_keep hb h2
    clear hb hb1 SZ
    by_cases hn2 : r2 < 0
    · go_wp2
      go_ret
      exact ⟨rfl, hb2⟩
    · have htl : ts.length ≤ 1048576 := by rcases hz2 with h | h <;> omega
      have HTM : Hid (SmallT ts) := by
        rcases hz2 with h | h
        · omega
        · exact h.2.2
      clear hz2
      have TCF : Hid (∀ X, Below w.heap.size w X → Calls Try.prog 8 #[.agg #[.int .i64 hd, .slice a ps.length c]] X (NewCfg hd ps X)) := fun X hX => toCfg_any a c hd ps X (HR.out.keep hX) hlen HSM.out
      have TCH : Hid (∀ X, Below w.heap.size w X → Calls Try.prog 9 #[.agg #[.slice A ts.length C]] X (NewChart ts X)) := fun X hX => toChart_any A C ts X (HT.out.keep hX) htl HTM.out
      have SPE : Hid (∀ X g bs g' bs', OP X g bs ps → OT X g' bs' ts → Calls Try.prog 7 #[.agg #[.int .i64 hd, .slice (some ⟨g, 0, none⟩) ps.length ps.length], .agg #[.slice (some ⟨g', 0, none⟩) ts.length ts.length]] X (EndsPost hd ps ts X)) := fun X g bs g' bs' ho hT => by
        obtain ⟨vs, hv1, hv2, hv3, hv4⟩ := ho.pv
        exact specEnds_any hd ps vs _ _ ts _ _ X hv1 hv2 hv3 hv4 hlen HSM.out hT.sts htl HTM.out
      have hbd := hb2.drew
      go_wp2
      go_region_held3 (fun X => X.cell? ⟨w.heap.size, 0, none⟩ = some (.int .i64 hd) ∧ X.cell? ⟨w.heap.size, 1, none⟩ = some (.slice a ps.length c) ∧ X.cell? ⟨w.heap.size + 1, 0, none⟩ = some (.slice A ts.length C))
        (first | exact ⟨cell_keep hb5 (cell_keep hb4 (cell_keep hb3 h0)), cell_keep hb5 (cell_keep hb4 (cell_keep hb3 h1)), cell_keep hb5 (cell_keep hb4 (cell_keep hb3 h2))⟩ | exact ⟨cell_keep hb4 (cell_keep hb3 h0), cell_keep hb4 (cell_keep hb3 h1), cell_keep hb4 (cell_keep hb3 h2)⟩ | exact ⟨cell_keep hb3 h0, cell_keep hb3 h1, cell_keep hb3 h2⟩ | exact ⟨h0, h1, h2⟩)
        (first | (go_at_call 8; refine (TCF.out _ hbd).mono ?_; rintro e w3 ⟨g3, bs3, rfl, hg3, hown3, hb3⟩)
               | (go_at_call 9; refine (TCH.out _ (hbd.trans (hb3.mono hbd.size))).mono ?_; rintro e w4 ⟨g4, bs4, rfl, hg4, hown4, hb4⟩)
               | (go_at_call 7; refine (SPE.out _ g3 bs3 g4 bs4 (hown3.keep hb4) hown4).mono ?_; rintro e w5 ⟨hd5, qs5, hIT5, rfl, hb5⟩))
      have hB5 : Below w.heap.size w w5 := (hbd.trans (hb3.mono hbd.size)).trans ((hb4.trans (hb5.mono hb4.size)).mono (Nat.le_trans hbd.size hb3.size))
      have hd25 : Below w2.heap.size w2 w5 := ((Below.refl w2.heap.size w2).drew.trans hb3).trans ((hb4.trans (hb5.mono hb4.size)).mono hb3.size)
      replace h0 := cell_keep hd25 h0
      replace h1 := cell_keep hd25 h1
      replace h2 := cell_keep hd25 h2
      have HIT := Lib.hid hIT5
      clear hb2 hbd hb3 hb4 hb5 hg3 hg4 hown3 hown4 hd25 hIT5 SPE
      generalize hans : endsAns hd ps qs5 ts = ans at *
      replace hans := Lib.hid hans
      -- x0
      go_wp2_with fail
      refine (TCF.out _ hB5).mono ?_
      rintro e w6 ⟨g6, bs6, rfl, hg6, hown6, hb⟩
      have hB6 : Below w.heap.size w (w6.alloc (.cells #[.int .i64 hd, .slice (some ⟨g6, 0, none⟩) ps.length ps.length] 33)) := (hB5.trans (hb.mono hB5.size)).alloc (Nat.le_trans hB5.size hb.size) _
      replace h0 := cell_alloc (o := .cells #[.int .i64 hd, .slice (some ⟨g6, 0, none⟩) ps.length ps.length] 33) (cell_keep hb h0)
      replace h1 := cell_alloc (o := .cells #[.int .i64 hd, .slice (some ⟨g6, 0, none⟩) ps.length ps.length] 33) (cell_keep hb h1)
      replace h2 := cell_alloc (o := .cells #[.int .i64 hd, .slice (some ⟨g6, 0, none⟩) ps.length ps.length] 33) (cell_keep hb h2)
      have x0 : (w6.alloc (.cells #[.int .i64 hd, .slice (some ⟨g6, 0, none⟩) ps.length ps.length] 33)).cell? ⟨w6.heap.size, 0, none⟩ = some (.int .i64 hd) := by simp
      have x1 : (w6.alloc (.cells #[.int .i64 hd, .slice (some ⟨g6, 0, none⟩) ps.length ps.length] 33)).cell? ⟨w6.heap.size, 1, none⟩ = some (.slice (some ⟨g6, 0, none⟩) ps.length ps.length) := by simp
      have HO6 := Lib.hid (hown6.alloc (.cells #[.int .i64 hd, .slice (some ⟨g6, 0, none⟩) ps.length ps.length] 33))
      have TC6 := Lib.hid (TCH.out _ hB6)
      clear hb hB5 hg6 hown6
      -- x1
      go_wp2_with fail
      generalize hX6 : w6.alloc (.cells #[.int .i64 hd, .slice (some ⟨g6, 0, none⟩) ps.length ps.length] 33) = Y6 at *
      clear hX6
      refine TC6.out.mono ?_
      rintro e w7 ⟨g7, bs7, rfl, hg7, hown7, hb⟩
      have hB7 : Below w.heap.size w (w7.alloc (.cells #[.slice (some ⟨g7, 0, none⟩) ts.length ts.length] 37)) := (hB6.trans (hb.mono hB6.size)).alloc (Nat.le_trans hB6.size hb.size) _
      replace h0 := cell_alloc (o := .cells #[.slice (some ⟨g7, 0, none⟩) ts.length ts.length] 37) (cell_keep hb h0)
      replace h1 := cell_alloc (o := .cells #[.slice (some ⟨g7, 0, none⟩) ts.length ts.length] 37) (cell_keep hb h1)
      replace h2 := cell_alloc (o := .cells #[.slice (some ⟨g7, 0, none⟩) ts.length ts.length] 37) (cell_keep hb h2)
      replace x0 := cell_alloc (o := .cells #[.slice (some ⟨g7, 0, none⟩) ts.length ts.length] 37) (cell_keep hb x0)
      replace x1 := cell_alloc (o := .cells #[.slice (some ⟨g7, 0, none⟩) ts.length ts.length] 37) (cell_keep hb x1)
      have y0 : (w7.alloc (.cells #[.slice (some ⟨g7, 0, none⟩) ts.length ts.length] 37)).cell? ⟨w7.heap.size, 0, none⟩ = some (.slice (some ⟨g7, 0, none⟩) ts.length ts.length) := by simp
      have HO7 := Lib.hid ((HO6.out.keep hb).alloc (.cells #[.slice (some ⟨g7, 0, none⟩) ts.length ts.length] 37))
      have HT7 := Lib.hid (hown7.alloc (.cells #[.slice (some ⟨g7, 0, none⟩) ts.length ts.length] 37))
      clear hb hB6 hg7 hown7 TC6 HO6
      have IM := Lib.hid (implEnds_any hd ps (some ⟨g6, 0, none⟩) ps.length ts (some ⟨g7, 0, none⟩) ts.length _ HO7.out.pds hlen HSM.out HT7.out.sts htl HTM.out)
      generalize w6.heap.size = X6 at *
      go_wp2_with fail
      generalize hX7 : w7.alloc (.cells #[.slice (some ⟨g7, 0, none⟩) ts.length ts.length] 37) = Y7 at *
      clear hX7
      refine IM.out.mono ?_
      rintro e w8 ⟨hd8, qs8, hIT8, rfl, hb⟩
      obtain ⟨_, e2⟩ := hIT8.one HIT.out
      subst e2
      rw [hans.out]
      have hB8 : Below w.heap.size w w8 := hB7.trans (hb.mono hB7.size)
      replace h0 := cell_keep hb h0
      replace h1 := cell_keep hb h1
      replace h2 := cell_keep hb h2
      replace x0 := cell_keep hb x0
      replace x1 := cell_keep hb x1
      replace y0 := cell_keep hb y0
      have HO8 := Lib.hid (HO7.out.keep hb)
      have HT8 := Lib.hid (HT7.out.keep hb)
      generalize w7.heap.size = X7 at *
      clear hb hB7 HO7 HT7 IM hIT8 HIT hans
      have hxx : (ans != ans) = false := by cases ans <;> rfl
      go_wp2
      go_region_held3 (fun X => X.cell? ⟨w.heap.size, 0, none⟩ = some (.int .i64 hd) ∧ X.cell? ⟨w.heap.size, 1, none⟩ = some (.slice a ps.length c) ∧ X.cell? ⟨X6, 0, none⟩ = some (.int .i64 hd) ∧ X.cell? ⟨X6, 1, none⟩ = some (.slice (some ⟨g6, 0, none⟩) ps.length ps.length))
        (first | exact ⟨cell_keep hb10 (cell_keep hb9 h0), cell_keep hb10 (cell_keep hb9 h1), cell_keep hb10 (cell_keep hb9 x0), cell_keep hb10 (cell_keep hb9 x1)⟩ | exact ⟨cell_keep hb9 h0, cell_keep hb9 h1, cell_keep hb9 x0, cell_keep hb9 x1⟩ | exact ⟨h0, h1, x0, x1⟩)
        (first | (go_at_call 8; refine (TCF.out _ hB8.drew).mono ?_; rintro e w9 ⟨g9, bs9, rfl, hg9, hown9, hb9⟩)
               | (go_at_call 11; refine (eqCfg_same _ _ _ _ hd ps _ (HO8.out.drew.keep hb9).pds hown9.pds hlen HSM.out).mono ?_; rintro e w10 ⟨rfl, hb10⟩))
      have hbd : Below w8.heap.size w8 w10 := ((Below.refl w8.heap.size w8).drew.trans hb9).trans (hb10.mono hb9.size)
      have hB10 : Below w.heap.size w w10 := hB8.trans (hbd.mono hB8.size)
      replace h2 := cell_keep hbd h2
      replace y0 := cell_keep hbd y0
      have HT10 := Lib.hid (HT8.out.keep hbd)
      clear hb9 hb10 hown9 hg9 hbd hB8 HO8 HT8 h0 h1 x0 x1
      go_wp2
      go_region_held3 (fun X => X.cell? ⟨w.heap.size + 1, 0, none⟩ = some (.slice A ts.length C) ∧ X.cell? ⟨X7, 0, none⟩ = some (.slice (some ⟨g7, 0, none⟩) ts.length ts.length))
        (first | exact ⟨cell_keep hb12 (cell_keep hb11 h2), cell_keep hb12 (cell_keep hb11 y0)⟩ | exact ⟨cell_keep hb11 h2, cell_keep hb11 y0⟩ | exact ⟨h2, y0⟩)
        (first | (go_at_call 9; refine (TCH.out _ hB10.drew).mono ?_; rintro e w11 ⟨g11, bs11, rfl, hg11, hown11, hb11⟩)
               | (go_at_call 12; refine (eqChart_same _ _ _ _ ts _ (HT10.out.drew.keep hb11).sts hown11.sts htl HTM.out).mono ?_; rintro e w12 ⟨rfl, hb12⟩))
      have hbd : Below w10.heap.size w10 w12 := ((Below.refl w10.heap.size w10).drew.trans hb11).trans (hb12.mono hb11.size)
      have hB12 : Below w.heap.size w w12 := hB10.trans (hbd.mono hB10.size)
      clear hb11 hb12 hown11 hg11 hbd hB10
      go_wp2
      go_ret
      exact ⟨rfl, hB12⟩

end Go.Proofs.Ytafldjbmheopjaa
