/- The walk of the law FnExactCfgLeast: it returns true for all productions, and writes nothing that was there. -/
import Derived.Test.YtojoncppdjmccaaK13
namespace Go.Proofs.Ytojoncppdjmccaa
open Go.RowKit
set_option linter.unusedVariables false

theorem IsLeast.len {hd : Int} {ps : List Pd} {L : List Int} (h : IsLeast hd ps L) : L.length ≤ 200 := by
  unfold IsLeast at h
  split at h
  · rename_i h1
    have h2 : hd ≤ 200 := by unfold cfgOkB at h1; simp at h1; omega
    have := h.1.length
    omega
  · rw [h]; simp

theorem PF.range {w : World} {g : Nat} {bs : List Nat} {ps : List Pd} (h : OP w g bs ps) {k : Nat} (hk : PF g bs k) : g ≤ k ∧ k < w.heap.size := by
  rcases hk with rfl | hk
  · exact ⟨Nat.le_refl _, h.o.lt⟩
  · refine ⟨Nat.le_of_lt (h.lt k hk), ?_⟩
    obtain ⟨i, hi, rfl⟩ := List.getElem_of_mem hk
    exact (h.d i (by rw [← h.l]; exact hi) hi).lt

set_option maxRecDepth 100000 in
set_option maxHeartbeats 600000 in
theorem exactCfgLeast_walk (a : Option Addr) (c : Nat) (ps : List Pd) (hd : Int) (w : World) (hr : Pds w a ps) (hm : ps.length ≤ maxLen) (hs : ∀ p ∈ ps, p.body.length ≤ maxLen) :
    Calls Try.prog 4 #[.agg #[.int .i64 hd, .slice a ps.length c]] w (True_ w) := by
  have HR := Lib.hid hr
  have HS := Lib.hid hs
  clear hr hs
  go_enter Try.func4, Try.ntmps4
  go_wp2_with fail
  refine (szCfg_any a c ps hd 1048576 _ (HR.out.keep (below_box _)) hm HS.out (by omega) (by omega)).mono ?_
  rintro e w1 ⟨r, rfl, hz, hb⟩
  have hb1 : Below w.heap.size w w1 := (below_box _).trans (hb.mono (by simp))
  have h0 : w1.cell? ⟨w.heap.size, 0, none⟩ = some (.int .i64 hd) := cell_keep hb (by simp)
  have h1 : w1.cell? ⟨w.heap.size, 1, none⟩ = some (.slice a ps.length c) := cell_keep hb (by simp)
  clear hb
  by_cases hn : r < 0
  · go_wp2
    go_ret
    exact ⟨rfl, hb1⟩
  · have hlen : ps.length ≤ 1048576 := by rcases hz with h | h <;> omega
    have HSM : Hid (Small ps) := by
      rcases hz with h | h
      · omega
      · exact h.2.2
    clear hz
    go_wp2_with fail
    refine (toCfg_any a c hd ps _ (HR.out.keep hb1) hlen HSM.out).mono ?_
    rintro e w2 ⟨g, bs, rfl, hg, hown, hb⟩
    have hb2 : Below w.heap.size w w2 := hb1.trans (hb.mono hb1.size)
    replace h0 := cell_keep hb h0
    replace h1 := cell_keep hb h1
    clear hb hb1 hg
    go_wp2_with fail
    refine (specLeast_any hd ps _ _ _ hown.pds hlen HSM.out).mono ?_
    rintro e w3 ⟨L, A3, cap3, rfl, ho3, hIL, hb⟩
    have hL := hIL.len
    have hb3 : Below w.heap.size w w3 := hb2.trans (hb.mono hb2.size)
    replace h0 := cell_keep hb h0
    replace h1 := cell_keep hb h1
    have hlt3 : Hid (∀ b, (Value.slice A3 L.length cap3).ownBlock = some b → b < w3.heap.size) := fun b hb => (ho3.lt b hb).2
    have hw3 : w.heap.size < w3.heap.size := cell_lt h0
    clear hb hb2 hown
    go_wp2_with fail
    refine (toCfg_any a c hd ps _ (HR.out.keep hb3) hlen HSM.out).mono ?_
    rintro e w4 ⟨g4, bs4, rfl, hg4, hown, hb⟩
    have hb4 : Below w.heap.size w w4 := hb3.trans (hb.mono hb3.size)
    replace h0 := cell_keep hb h0
    replace h1 := cell_keep hb h1
    replace ho3 := own_keep ho3 hb
    have HPF : Hid (∀ k, PF g4 bs4 k → w3.heap.size ≤ k ∧ k < w4.heap.size) := fun k hk => by have := PF.range hown hk; omega
    have hs34 := hb.size
    clear hb hb3 hg4
    go_wp2_with fail
    refine (implLeast_any hd ps _ _ _ (hown.alloc _).pds hlen HSM.out).mono ?_
    rintro e w5 ⟨L5, A5, cap5, rfl, ho5, hIL5, hb⟩
    obtain rfl : L = L5 := (hIL5.one hIL).symm
    have HIL := Lib.hid hIL
    have hb5 : Below w.heap.size w w5 := (hb4.alloc hb4.size _).trans (hb.mono (by simp; have := hb4.size; omega))
    replace h0 := cell_keep hb (v := .int .i64 hd) (p := ⟨w.heap.size, 0, none⟩) (cell_alloc h0 _)
    replace h1 := cell_keep hb (v := .slice a ps.length c) (p := ⟨w.heap.size, 1, none⟩) (cell_alloc h1 _)
    have x0 := cell_keep hb (v := .int .i64 hd) (p := ⟨w4.heap.size, 0, none⟩) (by simp)
    have x1 := cell_keep hb (v := .slice (some ⟨g4, 0, none⟩) ps.length ps.length) (p := ⟨w4.heap.size, 1, none⟩) (by simp)
    replace hown := (hown.alloc _).keep hb
    replace ho3 := own_keep (own_keep ho3 (below_box _)) hb
    simp only [World.size_alloc] at ho5
    clear hb hb4 hIL hIL5
    go_wp2_with fail
    refine (eqIntS_same _ _ _ _ L _ (own_row ho5) (own_row ho3) (by omega)).mono ?_
    rintro e w6 ⟨rfl, hb⟩
    have hb6 : Below w.heap.size w w6 := hb5.trans (hb.mono hb5.size)
    replace h0 := cell_keep hb h0
    replace h1 := cell_keep hb h1
    replace x0 := cell_keep hb x0
    replace x1 := cell_keep hb x1
    replace hown := hown.keep hb
    replace ho3 := own_keep ho3 hb
    replace ho5 := own_keep ho5 hb
    clear hb hb5
    have HOW := Lib.hid hown
    have HO3 := Lib.hid ho3
    have HO5 := Lib.hid ho5
    clear hown ho3 ho5
    generalize w4.heap.size = X at *
    go_wp2
    go_region_held3 (fun W => W.cell? ⟨w.heap.size, 0, none⟩ = some (.int .i64 hd) ∧ W.cell? ⟨w.heap.size, 1, none⟩ = some (.slice a ps.length c) ∧ W.cell? ⟨X, 0, none⟩ = some (.int .i64 hd) ∧ W.cell? ⟨X, 1, none⟩ = some (.slice (some ⟨g4, 0, none⟩) ps.length ps.length))
      (first | exact ⟨cell_keep hb8 (cell_keep hb7 h0), cell_keep hb8 (cell_keep hb7 h1), cell_keep hb8 (cell_keep hb7 x0), cell_keep hb8 (cell_keep hb7 x1)⟩ | exact ⟨cell_keep hb7 h0, cell_keep hb7 h1, cell_keep hb7 x0, cell_keep hb7 x1⟩ | exact ⟨h0, h1, x0, x1⟩)
      (first | (go_at_call 8; refine (toCfg_any a c hd ps _ (HR.out.keep hb6.drew) hlen HSM.out).mono ?_; rintro e w7 ⟨g7, bs7, rfl, hg7, hown7, hb7⟩)
             | (go_at_call 10; refine (eqCfg_same _ _ _ _ hd ps _ (HOW.out.drew.keep hb7).pds hown7.pds hlen HSM.out).mono ?_; rintro e w8 ⟨rfl, hb8⟩))
    have hb7' : Below w.heap.size w w7 := hb6.drew.trans (hb7.mono hb6.drew.size)
    have hb8' : Below w.heap.size w w8 := hb7'.trans (hb8.mono hb7'.size)
    replace h0 := cell_keep hb8 (cell_keep hb7 h0)
    replace h1 := cell_keep hb8 (cell_keep hb7 h1)
    replace x0 := cell_keep hb8 (cell_keep hb7 x0)
    replace x1 := cell_keep hb8 (cell_keep hb7 x1)
    have hown := (HOW.out.drew.keep hb7).keep hb8
    have ho3 := own_keep (own_keep HO3.out.drew hb7) hb8
    have ho5 := own_keep (own_keep HO5.out.drew hb7) hb8
    clear hb6 hb7 hb7' hb8 hown7 hg7 HOW HO3 HO5
    have HMC := Lib.hid (markCfg_any hd g4 bs4 ps _ hown hlen HSM.out)
    have HO3 := Lib.hid ho3
    have HO5 := Lib.hid ho5
    clear hown ho3 ho5
    go_wp2_with fail
    refine HMC.out.mono ?_
    rintro e w9 ⟨km, rfl, hkm, hf9⟩
    have hb9 : Below w.heap.size w w9 := hb8'.trans (hf9.below (fun k hk => by have := HPF.out k hk; omega) hb8'.size)
    replace h0 := hf9.cell h0 (fun h => by have := HPF.out _ h; simp only at this; omega)
    replace h1 := hf9.cell h1 (fun h => by have := HPF.out _ h; simp only at this; omega)
    have ho3 := hf9.ownsRow HO3.out (fun b e h => by have h1 := hlt3.out b e; have := HPF.out _ h; omega)
    have ho5 := hf9.ownsRow HO5.out (fun b e h => by have h1 := (HO5.out.lt b e).1; have := HPF.out _ h; omega)
    have hkm' : ¬ km < 0 := by omega
    clear hf9 hb8' x0 x1 HMC HO3 HO5
    go_wp2_with fail
    refine (eqIntS_same _ _ _ _ L _ (own_row ho5) (own_row ho3) (by omega)).mono ?_
    rintro e w10 ⟨rfl, hb⟩
    have hb10 : Below w.heap.size w w10 := hb9.trans (hb.mono hb9.size)
    replace h0 := cell_keep hb h0
    replace h1 := cell_keep hb h1
    replace ho3 := own_keep ho3 hb
    replace ho5 := own_keep ho5 hb
    clear hb hb9
    go_wp2_with fail
    refine (markI_any (X + 1) A5 cap5 L 1 _ ho5 (by omega) (by omega) (by omega)).mono ?_
    rintro e w11 ⟨rfl, ho11, hf11⟩
    have HL5 : Hid (∀ k, (Value.slice A5 L.length cap5).ownBlock = some k → X + 1 ≤ k) := fun k hk => (ho5.lt k hk).1
    have hwX : w3.heap.size ≤ X := hs34
    have hb11 : Below w.heap.size w w11 := hb10.trans (hf11.below (fun k hk => by have := HL5.out k hk; omega) hb10.size)
    replace h0 := hf11.cell h0 (fun h => by have := HL5.out _ h; simp only at this; omega)
    replace h1 := hf11.cell h1 (fun h => by have := HL5.out _ h; simp only at this; omega)
    replace ho3 := hf11.ownsRow ho3 (fun b e h => by have h1 := hlt3.out b e; have := HL5.out _ h; omega)
    clear hf11 ho5 hb10
    have hmr := own_row ho11
    have hr3 := own_row ho3
    clear ho11 ho3
    have hq0 : ¬ (1 + (L.length : Int)) < 0 := by omega
    have hq1 : ((1 + (L.length : Int)) != (1 + (L.length : Int))) = false := by simp
    go_wp2_with fail
    refine (heldI_any A5 cap5 L.length 1 _ hmr (by omega) (by omega) (by omega)).mono ?_
    rintro e w12 ⟨rfl, rfl⟩
    go_wp2_with fail
    refine (toCfg_any a c hd ps _ (HR.out.keep hb11) hlen HSM.out).mono ?_
    rintro e w13 ⟨g13, bs13, rfl, hg13, ho13, hb⟩
    have hb13 : Below w.heap.size w w13 := hb11.trans (hb.mono hb11.size)
    replace hr3 := hr3.keep hb
    replace hmr := hmr.keep hb
    clear hb hb11 hg13 h0 h1
    go_wp2_with fail
    refine (implLeast_any hd ps _ _ _ ho13.pds hlen HSM.out).mono ?_
    rintro e w14 ⟨L14, A14, cap14, rfl, ho14, hIL14, hb⟩
    obtain rfl : L14 = L := hIL14.one HIL.out
    have hb14 : Below w.heap.size w w14 := hb13.trans (hb.mono hb13.size)
    replace hr3 := hr3.keep hb
    replace hmr := hmr.keep hb
    have hr14 := own_row ho14
    clear hb hb13 ho13 ho14 hIL14
    go_wp2_with fail
    refine (eqIntS_same _ _ _ _ L14 _ hr14 hr3 (by omega)).mono ?_
    rintro e w15 ⟨rfl, hb⟩
    have hb15 : Below w.heap.size w w15 := hb14.trans (hb.mono hb14.size)
    replace hmr := hmr.keep hb
    clear hb hb14 hr3 hr14
    go_wp2_with fail
    refine (heldI_any A5 cap5 L14.length 1 _ hmr (by omega) (by omega) (by omega)).mono ?_
    rintro e w16 ⟨rfl, rfl⟩
    go_wp2
    go_ret
    exact ⟨rfl, hb15⟩

end Go.Proofs.Ytojoncppdjmccaa
