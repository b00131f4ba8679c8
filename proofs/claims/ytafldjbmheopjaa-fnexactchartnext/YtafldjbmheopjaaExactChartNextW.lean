/- The walk of the law FnExactChartNext: it returns true for all productions and charts, and writes nothing that was there. -/
import Derived.Test.YtafldjbmheopjaaG9
import Derived.Test.YtafldjbmheopjaaH1
namespace Go.Proofs.Ytafldjbmheopjaa
open Go.RowKit
set_option linter.unusedVariables false

theorem OT.fr {F F' : Nat → Prop} {w w' : World} {g : Nat} {bs : List Nat} {ts : List (List Sy)} (hf : Fr F F' w w') (h : OT w g bs ts) (hF : ∀ k, TF g bs k → ¬ F k) : OT w' g bs ts :=
  ⟨hf.own h.o (hF g (.inl rfl)), h.l, fun i hi hi' => hf.own (h.d i hi hi') (hF _ (.inr (List.getElem_mem hi'))), h.lt, h.inc⟩

set_option maxRecDepth 100000 in
set_option maxHeartbeats 8000000 in
theorem exactChartNext_walk (a : Option Addr) (c : Nat) (ps : List Pd) (hd : Int) (A : Option Addr) (C : Nat) (ts : List (List Sy)) (w : World) (hr : Pds w a ps) (hm : ps.length ≤ maxLen) (hs : ∀ p ∈ ps, p.body.length ≤ maxLen) (ht : Sts w A ts) (htm : ts.length ≤ maxLen) (hts : ∀ t ∈ ts, t.length ≤ maxLen) :
    Calls Try.prog 4 #[.agg #[.int .i64 hd, .slice a ps.length c], .agg #[.slice A ts.length C]] w (True_ w) := by
  have hb0 : Below w.heap.size w ((w.alloc (.cells #[.int .i64 hd, .slice a ps.length c] 24)).alloc (.cells #[.slice A ts.length C] 27)) := (below_box _).alloc (by simp) _
  have HR := Lib.hid hr
  have HT := Lib.hid ht
  have HS := Lib.hid hs
  have HTS := Lib.hid hts
  clear hr hs ht hts
  have h0 : ((w.alloc (.cells #[.int .i64 hd, .slice a ps.length c] 24)).alloc (.cells #[.slice A ts.length C] 27)).cell? ⟨w.heap.size, 0, none⟩ = some (.int .i64 hd) := by simp
  have h1 : ((w.alloc (.cells #[.int .i64 hd, .slice a ps.length c] 24)).alloc (.cells #[.slice A ts.length C] 27)).cell? ⟨w.heap.size, 1, none⟩ = some (.slice a ps.length c) := by simp
  have h2 : ((w.alloc (.cells #[.int .i64 hd, .slice a ps.length c] 24)).alloc (.cells #[.slice A ts.length C] 27)).cell? ⟨w.heap.size + 1, 0, none⟩ = some (.slice A ts.length C) := by simp
  go_enter Try.func4, Try.ntmps4
  go_wp2_with fail
  generalize (w.alloc (.cells #[.int .i64 hd, .slice a ps.length c] 24)).alloc (.cells #[.slice A ts.length C] 27) = W at *
  refine (szCfgB_any a c ps hd 1048576 _ (HR.out.keep hb0) hm HS.out (by omega) (by omega)).mono ?_
  rintro e w1 ⟨r, rfl, hr1, hz, hb⟩
  have hb1 : Below w.heap.size w w1 := hb0.trans (hb.mono hb0.size)
  replace h0 := cell_keep hb h0
  replace h1 := cell_keep hb h1
  replace h2 := cell_keep hb h2
  clear hb hb0
  by_cases hn : r < 0
  · go_wp2
    go_ret
    exact ⟨rfl, hb1⟩
  · have hlen : ps.length ≤ 1048576 := by rcases hz with h | h <;> omega
    have HSM : Hid (Small ps) := by
      rcases hz with h | h
      · omega
      · exact h.2.2
    clear hz
    have SZ := Lib.hid (szChart_any A C ts r w1 (HT.out.keep hb1) htm HTS.out (by omega) hr1)
    go_wp2_with fail
    refine SZ.out.mono ?_
    rintro e w2 ⟨r2, rfl, hz2, hb⟩
    have hb2 : Below w.heap.size w w2 := hb1.trans (hb.mono hb1.size)
    replace h0 := cell_keep hb h0
    replace h1 := cell_keep hb h1
    replace h2 := cell_keep hb h2
    clear hb hb1 SZ
    by_cases hn2 : r2 < 0
    · go_wp2
      go_ret
      exact ⟨rfl, hb2⟩
    · have htl : ts.length ≤ 1048576 := by rcases hz2 with h | h <;> omega
      have HTM : Hid (SmallT ts) := by
        rcases hz2 with h | h
        · omega
        · exact h.2.2
      clear hz2
      have TCF : Hid (∀ X, Below w.heap.size w X → Calls Try.prog 8 #[.agg #[.int .i64 hd, .slice a ps.length c]] X (NewCfg hd ps X)) := fun X hX => toCfg_any a c hd ps X (HR.out.keep hX) hlen HSM.out
      have TCH : Hid (∀ X, Below w.heap.size w X → Calls Try.prog 9 #[.agg #[.slice A ts.length C]] X (NewChart ts X)) := fun X hX => toChart_any A C ts X (HT.out.keep hX) htl HTM.out
      have SPE : Hid (∀ X g bs g' bs', OP X g bs ps → OT X g' bs' ts → Calls Try.prog 13 #[.agg #[.int .i64 hd, .slice (some ⟨g, 0, none⟩) ps.length ps.length], .agg #[.slice (some ⟨g', 0, none⟩) ts.length ts.length]] X (NextPost hd ps ts X)) := fun X g bs g' bs' ho hT => by
        obtain ⟨vs, hv1, hv2, hv3, hv4⟩ := ho.pv
        exact specNext_any hd ps vs _ _ ts _ _ X hv1 hv2 hv3 hv4 hlen HSM.out hT.sts htl HTM.out
      have hbd := hb2.drew
      go_wp2
      go_region_held3 (fun X => X.cell? ⟨w.heap.size, 0, none⟩ = some (.int .i64 hd) ∧ X.cell? ⟨w.heap.size, 1, none⟩ = some (.slice a ps.length c) ∧ X.cell? ⟨w.heap.size + 1, 0, none⟩ = some (.slice A ts.length C))
        (first | exact ⟨cell_keep hb5 (cell_keep hb4 (cell_keep hb3 h0)), cell_keep hb5 (cell_keep hb4 (cell_keep hb3 h1)), cell_keep hb5 (cell_keep hb4 (cell_keep hb3 h2))⟩ | exact ⟨cell_keep hb4 (cell_keep hb3 h0), cell_keep hb4 (cell_keep hb3 h1), cell_keep hb4 (cell_keep hb3 h2)⟩ | exact ⟨cell_keep hb3 h0, cell_keep hb3 h1, cell_keep hb3 h2⟩ | exact ⟨h0, h1, h2⟩)
        (first | (go_at_call 8; refine (TCF.out _ hbd).mono ?_; rintro e w3 ⟨g3, bs3, rfl, hg3, hown3, hb3⟩)
               | (go_at_call 9; refine (TCH.out _ (hbd.trans (hb3.mono hbd.size))).mono ?_; rintro e w4 ⟨g4, bs4, rfl, hg4, hown4, hb4⟩)
               | (go_at_call 13; refine (SPE.out _ g3 bs3 g4 bs4 (hown3.keep hb4) hown4).mono ?_; rintro e w5 ⟨hd5, qs5, g5, hIT5, rfl, hg5, hO5, hb5⟩))
      have h24 : w.heap.size + 1 < w4.heap.size := cell_lt (cell_keep hb4 (cell_keep hb3 h2))
      have hB5 : Below w.heap.size w w5 := (hbd.trans (hb3.mono hbd.size)).trans ((hb4.trans (hb5.mono hb4.size)).mono (Nat.le_trans hbd.size hb3.size))
      have hd25 : Below w2.heap.size w2 w5 := ((Below.refl w2.heap.size w2).drew.trans hb3).trans ((hb4.trans (hb5.mono hb4.size)).mono hb3.size)
      replace h0 := cell_keep hd25 h0
      replace h1 := cell_keep hd25 h1
      replace h2 := cell_keep hd25 h2
      have HIT := Lib.hid hIT5
      clear hb2 hbd hb3 hb4 hb5 hg3 hg4 hown3 hown4 hd25 hIT5 SPE
      have hlen5 := nextAns_length hd ps qs5 ts
      generalize hans : nextAns hd ps qs5 ts = ans at *
      replace hans := Lib.hid hans
      have hg5l := hO5.lt
      have hg5w : w.heap.size + 1 < g5 := by have := h24; omega
      -- x0
      go_wp2_with fail
      refine (TCF.out _ hB5).mono ?_
      rintro e w6 ⟨g6, bs6, rfl, hg6, hown6, hb⟩
      have hB6 : Below w.heap.size w (w6.alloc (.cells #[.int .i64 hd, .slice (some ⟨g6, 0, none⟩) ps.length ps.length] 33)) := (hB5.trans (hb.mono hB5.size)).alloc (Nat.le_trans hB5.size hb.size) _
      replace h0 := cell_alloc (o := .cells #[.int .i64 hd, .slice (some ⟨g6, 0, none⟩) ps.length ps.length] 33) (cell_keep hb h0)
      replace h1 := cell_alloc (o := .cells #[.int .i64 hd, .slice (some ⟨g6, 0, none⟩) ps.length ps.length] 33) (cell_keep hb h1)
      replace h2 := cell_alloc (o := .cells #[.int .i64 hd, .slice (some ⟨g6, 0, none⟩) ps.length ps.length] 33) (cell_keep hb h2)
      have x0 : (w6.alloc (.cells #[.int .i64 hd, .slice (some ⟨g6, 0, none⟩) ps.length ps.length] 33)).cell? ⟨w6.heap.size, 0, none⟩ = some (.int .i64 hd) := by simp
      have x1 : (w6.alloc (.cells #[.int .i64 hd, .slice (some ⟨g6, 0, none⟩) ps.length ps.length] 33)).cell? ⟨w6.heap.size, 1, none⟩ = some (.slice (some ⟨g6, 0, none⟩) ps.length ps.length) := by simp
      have HPF : Hid (∀ k, PF g6 bs6 k → w5.heap.size ≤ k ∧ k < w6.heap.size) := fun k hk => by have := PF.range hown6 hk; omega
      have HW6 := Lib.hid ((hO5.keep hb).alloc (.cells #[.int .i64 hd, .slice (some ⟨g6, 0, none⟩) ps.length ps.length] 33))
      have HO6 := Lib.hid (hown6.alloc (.cells #[.int .i64 hd, .slice (some ⟨g6, 0, none⟩) ps.length ps.length] 33))
      have TC6 := Lib.hid (TCH.out _ hB6)
      have hw56 : w5.heap.size ≤ w6.heap.size := hb.size
      clear hb hB5 hg6 hown6 hO5
      -- x1
      go_wp2_with fail
      generalize hX6 : w6.alloc (.cells #[.int .i64 hd, .slice (some ⟨g6, 0, none⟩) ps.length ps.length] 33) = Y6 at *
      have hY6 : Y6.heap.size = w6.heap.size + 1 := by rw [← hX6]; simp
      replace hY6 := Lib.hid hY6
      clear hX6
      refine TC6.out.mono ?_
      rintro e w7 ⟨g7, bs7, rfl, hg7, hown7, hb⟩
      have hB7 : Below w.heap.size w (w7.alloc (.cells #[.slice (some ⟨g7, 0, none⟩) ts.length ts.length] 37)) := (hB6.trans (hb.mono hB6.size)).alloc (Nat.le_trans hB6.size hb.size) _
      replace h0 := cell_alloc (o := .cells #[.slice (some ⟨g7, 0, none⟩) ts.length ts.length] 37) (cell_keep hb h0)
      replace h1 := cell_alloc (o := .cells #[.slice (some ⟨g7, 0, none⟩) ts.length ts.length] 37) (cell_keep hb h1)
      replace h2 := cell_alloc (o := .cells #[.slice (some ⟨g7, 0, none⟩) ts.length ts.length] 37) (cell_keep hb h2)
      replace x0 := cell_alloc (o := .cells #[.slice (some ⟨g7, 0, none⟩) ts.length ts.length] 37) (cell_keep hb x0)
      replace x1 := cell_alloc (o := .cells #[.slice (some ⟨g7, 0, none⟩) ts.length ts.length] 37) (cell_keep hb x1)
      have y0 : (w7.alloc (.cells #[.slice (some ⟨g7, 0, none⟩) ts.length ts.length] 37)).cell? ⟨w7.heap.size, 0, none⟩ = some (.slice (some ⟨g7, 0, none⟩) ts.length ts.length) := by simp
      have HTF : Hid (∀ k, TF g7 bs7 k → Y6.heap.size ≤ k ∧ k < w7.heap.size) := fun k hk => by have := hown7.range hk; omega
      have HW7 := Lib.hid ((HW6.out.keep hb).alloc (.cells #[.slice (some ⟨g7, 0, none⟩) ts.length ts.length] 37))
      have HO7 := Lib.hid ((HO6.out.keep hb).alloc (.cells #[.slice (some ⟨g7, 0, none⟩) ts.length ts.length] 37))
      have HT7 := Lib.hid (hown7.alloc (.cells #[.slice (some ⟨g7, 0, none⟩) ts.length ts.length] 37))
      have hw67 : Y6.heap.size ≤ w7.heap.size := hb.size
      clear hb hB6 hg7 hown7 TC6 HO6 HW6
      have IMN : Hid (∀ X g bs g' bs', OP X g bs ps → OT X g' bs' ts → Calls Try.prog 14 #[.agg #[.int .i64 hd, .slice (some ⟨g, 0, none⟩) ps.length ps.length], .agg #[.slice (some ⟨g', 0, none⟩) ts.length ts.length]] X (NextPost hd ps ts X)) := fun X g bs g' bs' ho hT => implNext_any hd ps _ _ ts _ _ X ho.pds hlen HSM.out hT.sts htl HTM.out
      have EQB : Hid (∀ X g g', Own X g 4 (bools ans) → Own X g' 4 (bools ans) → Calls Try.prog 15 #[.slice (some ⟨g, 0, none⟩) 256 256, .slice (some ⟨g', 0, none⟩) 256 256] X fun e w' => e = .returned (.bool true) ∧ Below X.heap.size X w') := fun X g g' h h' => by
        have := eqB_same g g' ans X h h' (by omega)
        rw [hlen5] at this
        exact this
      have MKB : Hid (∀ X g, Own X g 4 (bools ans) → Calls Try.prog 18 #[.slice (some ⟨g, 0, none⟩) 256 256, .int .i64 1] X fun e w' => e = .returned (.int .i64 257) ∧ Own w' g 4 (bools (marksB 1 256)) ∧ Fr (fun j => j = g) (fun j => j = g) X w') := fun X g h => by
        have := markB_any g ans 1 X h (by omega) (by omega) (by omega)
        rw [hlen5] at this
        exact this
      have HLB : Hid (∀ X g, Own X g 4 (bools (marksB 1 256)) → Calls Try.prog 19 #[.slice (some ⟨g, 0, none⟩) 256 256, .int .i64 1] X fun e w' => e = .returned (.int .i64 257) ∧ X = w') := fun X g h => heldB_any g 256 1 X h (by omega) (by omega) (by omega)
      have IM := Lib.hid (IMN.out _ g6 bs6 g7 bs7 HO7.out HT7.out)
      have hX67 : Hid (w6.heap.size < w7.heap.size) := by show _ < _; have := hY6.out; omega
      generalize w6.heap.size = X6 at *
      go_wp2_with fail
      generalize hX7 : w7.alloc (.cells #[.slice (some ⟨g7, 0, none⟩) ts.length ts.length] 37) = Y7 at *
      have hY7 : Hid (Y7.heap.size = w7.heap.size + 1) := by show _ = _; rw [← hX7]; simp
      clear hX7
      refine IM.out.mono ?_
      rintro e w8 ⟨hd8, qs8, g8, hIT8, rfl, hg8, hO8, hb⟩
      obtain ⟨_, e2⟩ := hIT8.one HIT.out
      subst e2
      rw [hans.out] at hO8
      have hB8 : Below w.heap.size w w8 := hB7.trans (hb.mono hB7.size)
      replace h0 := cell_keep hb h0
      replace h1 := cell_keep hb h1
      replace h2 := cell_keep hb h2
      replace x0 := cell_keep hb x0
      replace x1 := cell_keep hb x1
      replace y0 := cell_keep hb y0
      have HO8 := Lib.hid (HO7.out.keep hb)
      have HT8 := Lib.hid (HT7.out.keep hb)
      have HW8 := Lib.hid (HW7.out.keep hb)
      have hg8' : w7.heap.size + 1 ≤ g8 := by have := hY7.out; omega
      have HORD : Hid (w.heap.size + 1 < g5 ∧ g5 < w5.heap.size ∧ w5.heap.size ≤ X6 ∧ Y6.heap.size = X6 + 1 ∧ X6 < w7.heap.size ∧ w7.heap.size < g8) := ⟨by omega, hg5l, hw56, hY6.out, hX67.out, by omega⟩
      generalize w7.heap.size = X7 at *
      have HIT2 := Lib.hid hIT8
      have hans2 := hans
      clear hb hB7 HO7 HT7 HW7 IM hIT8 HIT hans hg8 hg8' hg5l hw56 hY6 hX67 hY7 hw67 hg5
      have HG8 := Lib.hid hO8
      clear hO8
      -- equal flags
      have E9 := Lib.hid (EQB.out w8 g8 g5 HG8.out HW8.out)
      go_wp2_with fail
      refine E9.out.mono ?_
      rintro e w9 ⟨rfl, hb⟩
      have hB9 : Below w.heap.size w w9 := hB8.trans (hb.mono hB8.size)
      replace h0 := cell_keep hb h0
      replace h1 := cell_keep hb h1
      replace h2 := cell_keep hb h2
      replace x0 := cell_keep hb x0
      replace x1 := cell_keep hb x1
      replace y0 := cell_keep hb y0
      replace HO8 := Lib.hid (HO8.out.keep hb)
      replace HT8 := Lib.hid (HT8.out.keep hb)
      replace HW8 := Lib.hid (HW8.out.keep hb)
      replace HG8 := Lib.hid (HG8.out.keep hb)
      clear hb hB8 E9
      go_wp2
      go_region_held3 (fun X => X.cell? ⟨w.heap.size, 0, none⟩ = some (.int .i64 hd) ∧ X.cell? ⟨w.heap.size, 1, none⟩ = some (.slice a ps.length c) ∧ X.cell? ⟨X6, 0, none⟩ = some (.int .i64 hd) ∧ X.cell? ⟨X6, 1, none⟩ = some (.slice (some ⟨g6, 0, none⟩) ps.length ps.length))
        (first | exact ⟨cell_keep hb11 (cell_keep hb10 h0), cell_keep hb11 (cell_keep hb10 h1), cell_keep hb11 (cell_keep hb10 x0), cell_keep hb11 (cell_keep hb10 x1)⟩ | exact ⟨cell_keep hb10 h0, cell_keep hb10 h1, cell_keep hb10 x0, cell_keep hb10 x1⟩ | exact ⟨h0, h1, x0, x1⟩)
        (first | (go_at_call 8; refine (TCF.out _ hB9.drew).mono ?_; rintro e w10 ⟨g10, bs10, rfl, hg10, hown10, hb10⟩)
               | (go_at_call 11; refine (eqCfg_same _ _ _ _ hd ps _ (HO8.out.drew.keep hb10).pds hown10.pds hlen HSM.out).mono ?_; rintro e w11 ⟨rfl, hb11⟩))
      have hbd : Below w9.heap.size w9 w11 := ((Below.refl w9.heap.size w9).drew.trans hb10).trans (hb11.mono hb10.size)
      have hB11 : Below w.heap.size w w11 := hB9.trans (hbd.mono hB9.size)
      replace h0 := cell_keep hbd h0
      replace h1 := cell_keep hbd h1
      replace h2 := cell_keep hbd h2
      replace x0 := cell_keep hbd x0
      replace x1 := cell_keep hbd x1
      replace y0 := cell_keep hbd y0
      replace HO8 := Lib.hid (HO8.out.keep hbd)
      replace HT8 := Lib.hid (HT8.out.keep hbd)
      replace HW8 := Lib.hid (HW8.out.keep hbd)
      replace HG8 := Lib.hid (HG8.out.keep hbd)
      clear hb10 hb11 hown10 hg10 hbd hB9
      go_wp2
      go_region_held3 (fun X => X.cell? ⟨w.heap.size + 1, 0, none⟩ = some (.slice A ts.length C) ∧ X.cell? ⟨X7, 0, none⟩ = some (.slice (some ⟨g7, 0, none⟩) ts.length ts.length))
        (first | exact ⟨cell_keep hb13 (cell_keep hb12 h2), cell_keep hb13 (cell_keep hb12 y0)⟩ | exact ⟨cell_keep hb12 h2, cell_keep hb12 y0⟩ | exact ⟨h2, y0⟩)
        (first | (go_at_call 9; refine (TCH.out _ hB11.drew).mono ?_; rintro e w12 ⟨g12, bs12, rfl, hg12, hown12, hb12⟩)
               | (go_at_call 12; refine (eqChart_same _ _ _ _ ts _ (HT8.out.drew.keep hb12).sts hown12.sts htl HTM.out).mono ?_; rintro e w13 ⟨rfl, hb13⟩))
      have hbd : Below w11.heap.size w11 w13 := ((Below.refl w11.heap.size w11).drew.trans hb12).trans (hb13.mono hb12.size)
      have hB13 : Below w.heap.size w w13 := hB11.trans (hbd.mono hB11.size)
      replace h0 := cell_keep hbd h0
      replace h1 := cell_keep hbd h1
      replace h2 := cell_keep hbd h2
      replace x0 := cell_keep hbd x0
      replace x1 := cell_keep hbd x1
      replace y0 := cell_keep hbd y0
      replace HO8 := Lib.hid (HO8.out.keep hbd)
      replace HT8 := Lib.hid (HT8.out.keep hbd)
      replace HW8 := Lib.hid (HW8.out.keep hbd)
      replace HG8 := Lib.hid (HG8.out.keep hbd)
      clear hb12 hb13 hown12 hg12 hbd hB11
      -- marks
      have M14 := Lib.hid (markCfgB_any hd g6 bs6 ps w13 HO8.out hlen HSM.out)
      go_wp2_with fail
      refine M14.out.mono ?_
      rintro e w14 ⟨km, rfl, hkm, hkm2, hf⟩
      have hB14 : Below w.heap.size w w14 := hB13.trans (hf.below (base := w.heap.size) (fun k hk => by have := HPF.out k hk; have := HORD.out; omega) hB13.size)
      replace h0 := hf.cell h0 (fun h => by have h9 := HPF.out _ h; have := HORD.out; dsimp only at h9; omega)
      replace h1 := hf.cell h1 (fun h => by have h9 := HPF.out _ h; have := HORD.out; dsimp only at h9; omega)
      replace h2 := hf.cell h2 (fun h => by have h9 := HPF.out _ h; have := HORD.out; dsimp only at h9; omega)
      replace y0 := hf.cell y0 (fun h => by have h9 := HPF.out _ h; have := HORD.out; dsimp only at h9; omega)
      replace HT8 := Lib.hid (OT.fr hf HT8.out (fun k hk h => by have := HPF.out k h; have := HTF.out k hk; have := HORD.out; omega))
      replace HW8 := Lib.hid (hf.own HW8.out (fun h => by have := HPF.out _ h; have := HORD.out; omega))
      replace HG8 := Lib.hid (hf.own HG8.out (fun h => by have := HPF.out _ h; have := HORD.out; omega))
      clear hf hB13 HO8 x0 x1 M14
      have M15 := Lib.hid (markChart_any g7 bs7 ts km w14 HT8.out htl HTM.out hkm hkm2)
      go_wp2_with fail
      refine M15.out.mono ?_
      rintro e w15 ⟨kn, rfl, hkn, hf⟩
      have hB15 : Below w.heap.size w w15 := hB14.trans (hf.below (base := w.heap.size) (fun k hk => by have := HTF.out k hk; have := HORD.out; omega) hB14.size)
      replace h0 := hf.cell h0 (fun h => by have h9 := HTF.out _ h; have := HORD.out; dsimp only at h9; omega)
      replace h1 := hf.cell h1 (fun h => by have h9 := HTF.out _ h; have := HORD.out; dsimp only at h9; omega)
      replace h2 := hf.cell h2 (fun h => by have h9 := HTF.out _ h; have := HORD.out; dsimp only at h9; omega)
      replace HW8 := Lib.hid (hf.own HW8.out (fun h => by have := HTF.out _ h; have := HORD.out; omega))
      replace HG8 := Lib.hid (hf.own HG8.out (fun h => by have := HTF.out _ h; have := HORD.out; omega))
      clear hf hB14 HT8 y0 M15 hkm hkm2
      have hkn' : ¬ kn < 0 := by omega
      have E16 := Lib.hid (EQB.out w15 g8 g5 HG8.out HW8.out)
      go_wp2_with fail
      refine E16.out.mono ?_
      rintro e w16 ⟨rfl, hb⟩
      have hB16 : Below w.heap.size w w16 := hB15.trans (hb.mono hB15.size)
      replace h0 := cell_keep hb h0
      replace h1 := cell_keep hb h1
      replace h2 := cell_keep hb h2
      replace HW8 := Lib.hid (HW8.out.keep hb)
      replace HG8 := Lib.hid (HG8.out.keep hb)
      clear hb hB15 E16
      have M17 := Lib.hid (MKB.out w16 g8 HG8.out)
      go_wp2_with fail
      refine M17.out.mono ?_
      rintro e w17 ⟨rfl, hO17, hf⟩
      have hB17 : Below w.heap.size w w17 := hB16.trans (hf.below (base := w.heap.size) (fun k hk => by have := HORD.out; omega) hB16.size)
      replace h0 := hf.cell h0 (fun h => by have := HORD.out; simp only at h; omega)
      replace h1 := hf.cell h1 (fun h => by have := HORD.out; simp only at h; omega)
      replace h2 := hf.cell h2 (fun h => by have := HORD.out; simp only at h; omega)
      replace HW8 := Lib.hid (hf.own HW8.out (fun h => by have := HORD.out; omega))
      have HM17 := Lib.hid hO17
      clear hf hB16 HG8 M17 hO17
      have L17 := Lib.hid (HLB.out w17 g8 HM17.out)
      go_wp2_with fail
      refine L17.out.mono ?_
      rintro e w18 ⟨rfl, rfl⟩
      clear L17
      have hbd := hB17.drew
      go_wp2
      go_region_held3 (fun X => X.cell? ⟨w.heap.size, 0, none⟩ = some (.int .i64 hd) ∧ X.cell? ⟨w.heap.size, 1, none⟩ = some (.slice a ps.length c) ∧ X.cell? ⟨w.heap.size + 1, 0, none⟩ = some (.slice A ts.length C))
        (first | exact ⟨cell_keep hb21 (cell_keep hb20 (cell_keep hb19 h0)), cell_keep hb21 (cell_keep hb20 (cell_keep hb19 h1)), cell_keep hb21 (cell_keep hb20 (cell_keep hb19 h2))⟩ | exact ⟨cell_keep hb20 (cell_keep hb19 h0), cell_keep hb20 (cell_keep hb19 h1), cell_keep hb20 (cell_keep hb19 h2)⟩ | exact ⟨cell_keep hb19 h0, cell_keep hb19 h1, cell_keep hb19 h2⟩ | exact ⟨h0, h1, h2⟩)
        (first | (go_at_call 8; refine (TCF.out _ hbd).mono ?_; rintro e w19 ⟨g19, bs19, rfl, hg19, hown19, hb19⟩)
               | (go_at_call 9; refine (TCH.out _ (hbd.trans (hb19.mono hbd.size))).mono ?_; rintro e w20 ⟨g20, bs20, rfl, hg20, hown20, hb20⟩)
               | (go_at_call 14; refine (IMN.out _ g19 bs19 g20 bs20 (hown19.keep hb20) hown20).mono ?_; rintro e w21 ⟨hd21, qs21, g21, hIT21, rfl, hg21, hO21, hb21⟩))
      have hd21' : Below w17.heap.size w17 w21 := ((Below.refl w17.heap.size w17).drew.trans hb19).trans ((hb20.trans (hb21.mono hb20.size)).mono hb19.size)
      have hB21 : Below w.heap.size w w21 := hB17.trans (hd21'.mono hB17.size)
      obtain ⟨_, e3⟩ := hIT21.one HIT2.out
      subst e3
      rw [hans2.out] at hO21
      replace HW8 := Lib.hid (HW8.out.keep hd21')
      replace HM17 := Lib.hid (HM17.out.keep hd21')
      have E22 := Lib.hid (EQB.out w21 g21 g5 hO21 HW8.out)
      clear hb19 hb20 hb21 hd21' hbd hg19 hg20 hg21 hown19 hown20 hO21 hIT21 h0 h1 h2 hB17
      go_wp2_with fail
      refine E22.out.mono ?_
      rintro e w22 ⟨rfl, hb⟩
      have hB22 : Below w.heap.size w w22 := hB21.trans (hb.mono hB21.size)
      have L22 := Lib.hid (HLB.out w22 g8 (HM17.out.keep hb))
      clear hb hB21 E22
      go_wp2_with fail
      refine L22.out.mono ?_
      rintro e w23 ⟨rfl, rfl⟩
      go_wp2
      go_ret
      exact ⟨rfl, hB22⟩

end Go.Proofs.Ytafldjbmheopjaa
