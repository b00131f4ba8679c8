/- The walk of the law FnExactCfgTrim: it returns true for all productions, and writes nothing that was there. -/
import Derived.Test.YtkgiklmdpdakbaaM13
import Derived.Test.YtkgiklmdpdakbaaM8
namespace Go.Proofs.Ytkgiklmdpdakbaa
open Go.RowKit
set_option linter.unusedVariables false

theorem OG.below {w w' : World} {base cap B : Nat} {A : Option Addr} {xs : List Pv} (h : OG w base A cap xs) (hb : Below B w w') (hB : ∀ k, OF A xs k → k < B) : OG w' base A cap xs := by
  have key : ∀ {e : TypeId} {size : Nat} {K : Option Addr} {n c : Nat} {vs : List Value}, w.ownsRow base e size (.slice K n c) n vs → (∀ k, OB K k → k < B) → w'.ownsRow base e size (.slice K n c) n vs := by
    intro e size K n c vs h hB
    rcases h with ⟨hl, ⟨h0, h1⟩ | ⟨g, cap, cur, h0, h1, h2, h3⟩⟩
    · exact ⟨hl, .inl ⟨h0, h1⟩⟩
    · refine ⟨hl, .inr ⟨g, cap, cur, h0, h1, (hb.block g (hB g ?_)).trans h2, h3⟩⟩
      injection h0 with h0
      subst h0; rfl
  exact ⟨key h.o (fun k hk => hB k (.inl hk)), fun i hi => key (h.d i hi) (fun k hk => hB k (.inr ⟨_, List.getElem_mem hi, hk⟩)), h.ap⟩
theorem Fr.og {w w' : World} {F F' : Nat → Prop} {base cap : Nat} {A : Option Addr} {xs : List Pv} (hf : Fr F F' w w') (h : OG w base A cap xs) (hF : ∀ k, OF A xs k → ¬ F k) : OG w' base A cap xs := by
  refine ⟨hf.ownsRow h.o (fun b hb => hF b (.inl ?_)), fun i hi => hf.ownsRow (h.d i hi) (fun b hb => hF b (.inr ⟨_, List.getElem_mem hi, ?_⟩)), h.ap⟩
  · unfold OB
    cases A with
    | none => cases hb
    | some a => exact hb
  · unfold OB
    unfold Pv.sl at hb
    cases hk : xs[i].K with
    | none => rw [hk] at hb; cases hb
    | some a => rw [hk] at hb; exact hb

theorem pv_small {xs : List Pv} (h : Small (xs.map Pv.p)) : ∀ x ∈ xs, x.p.body.length ≤ 1048576 := fun x hx => h x.p (List.mem_map_of_mem hx)

set_option maxRecDepth 100000 in
set_option maxHeartbeats 1000000 in
theorem exactCfgTrim_walk (a : Option Addr) (c : Nat) (ps : List Pd) (hd : Int) (w : World) (hr : Pds w a ps) (hm : ps.length ≤ maxLen) (hs : ∀ p ∈ ps, p.body.length ≤ maxLen) :
    Calls Try.prog 4 #[.agg #[.int .i64 hd, .slice a ps.length c]] w (True_ w) := by
  have HR := Lib.hid hr
  have HS := Lib.hid hs
  clear hr hs
  go_enter Try.func4, Try.ntmps4
  go_wp2_with fail
  refine (szCfg_any a c ps hd 1048576 _ (HR.out.keep (below_box _)) hm HS.out (by omega) (by omega)).mono ?_
  rintro e w1 ⟨r, rfl, hz, hb⟩
  have hb1 : Below w.heap.size w w1 := (below_box _).trans (hb.mono (by simp))
  have h0 : w1.cell? ⟨w.heap.size, 0, none⟩ = some (.int .i64 hd) := cell_keep hb (by simp)
  have h1 : w1.cell? ⟨w.heap.size, 1, none⟩ = some (.slice a ps.length c) := cell_keep hb (by simp)
  clear hb
  by_cases hn : r < 0
  · go_wp2
    go_ret
    exact ⟨rfl, hb1⟩
  · have hlen : ps.length ≤ 1048576 := by rcases hz with h | h <;> omega
    have HSM : Hid (Small ps) := by
      rcases hz with h | h
      · omega
      · exact h.2.2
    clear hz
    go_wp2_with fail
    refine (toCfg_any a c hd ps _ (HR.out.keep hb1) hlen HSM.out).mono ?_
    rintro e w2 ⟨g, bs, rfl, hg, hown, hb⟩
    have hb2 : Below w.heap.size w w2 := hb1.trans (hb.mono hb1.size)
    replace h0 := cell_keep hb h0
    replace h1 := cell_keep hb h1
    obtain ⟨vs, hv1, hv2, hv3, hv4⟩ := hown.pv
    have HSP := Lib.hid (specTrim_any hd ps vs (some ⟨g, 0, none⟩) ps.length w2 hv1 hv2 hv3 hv4 hlen HSM.out)
    clear hb hb1 hg hown hv1 hv2 hv3 hv4
    go_wp2_with fail
    refine HSP.out.mono ?_
    rintro e w3 ⟨hd3, A3, cap3, z3, rfl, hIT, hog3, hb⟩
    have hb3 : Below w.heap.size w w3 := hb2.trans (hb.mono hb2.size)
    replace h0 := cell_keep hb h0
    replace h1 := cell_keep hb h1
    have hl3 := hIT.len
    rw [List.length_map] at hl3
    have HS3 := Lib.hid (hIT.small HSM.out)
    have HIT := Lib.hid hIT
    have HG3 := Lib.hid hog3
    have hw3 : w.heap.size < w3.heap.size := cell_lt h0
    have HP3 : Hid (∀ k, OF A3 z3 k → k < w3.heap.size) := fun k hk => (hog3.ge hk).2
    clear hb hb2 HSP hIT hog3
    have hb3x : Below w.heap.size w (w3.alloc (.cells #[.int .i64 hd3, .slice A3 z3.length cap3] 25)) := hb3.alloc hb3.size _
    have HTC := Lib.hid (toCfg_any a c hd ps (w3.alloc (.cells #[.int .i64 hd3, .slice A3 z3.length cap3] 25)) (HR.out.keep hb3x) hlen HSM.out)
    go_wp2_with fail
    refine HTC.out.mono ?_
    rintro e w4 ⟨g4, bs4, rfl, hg4, hown, hb⟩
    have hb4 : Below w.heap.size w w4 := hb3x.trans (hb.mono hb3x.size)
    replace h0 := cell_keep hb (v := .int .i64 hd) (p := ⟨w.heap.size, 0, none⟩) (cell_alloc h0 _)
    replace h1 := cell_keep hb (v := .slice a ps.length c) (p := ⟨w.heap.size, 1, none⟩) (cell_alloc h1 _)
    have s0 := cell_keep hb (v := .int .i64 hd3) (p := ⟨w3.heap.size, 0, none⟩) (by simp)
    have s1 := cell_keep hb (v := .slice A3 z3.length cap3) (p := ⟨w3.heap.size, 1, none⟩) (by simp)
    have HG4 := Lib.hid ((HG3.out.keep (below_box (.cells #[.int .i64 hd3, .slice A3 z3.length cap3] 25))).keep hb)
    have hs34 : w3.heap.size + 1 ≤ w4.heap.size := by have := hb.size; simpa using this
    rw [World.size_alloc] at hg4
    have HPF : Hid (∀ k, PF g4 bs4 k → w3.heap.size + 1 ≤ k ∧ k < w4.heap.size) := fun k hk => by have := PF.range hown hk; omega
    clear hb hb3 hb3x HTC HG3
    have HOW := Lib.hid (hown.alloc (.cells #[.int .i64 hd, .slice (some ⟨g4, 0, none⟩) ps.length ps.length] 25))
    have hb4x : Below w.heap.size w (w4.alloc (.cells #[.int .i64 hd, .slice (some ⟨g4, 0, none⟩) ps.length ps.length] 25)) := hb4.alloc hb4.size _
    have HIM := Lib.hid (implTrim_any hd ps (some ⟨g4, 0, none⟩) ps.length (w4.alloc (.cells #[.int .i64 hd, .slice (some ⟨g4, 0, none⟩) ps.length ps.length] 25)) HOW.out.pds hlen HSM.out)
    clear hown hb4
    go_wp2_with fail
    refine HIM.out.mono ?_
    rintro e w5 ⟨hd5, A5, cap5, z5, rfl, hIT5, hog5, hb⟩
    obtain ⟨e1, e2⟩ := hIT5.one HIT.out
    subst e1
    have hz53 : z5.length = z3.length := by have := congrArg List.length e2; simpa using this
    obtain ⟨m, hm3⟩ : ∃ m, z3.length = m := ⟨_, rfl⟩
    rw [hm3] at hz53 s1 hl3
    obtain ⟨qs, hqs⟩ : ∃ qs, z3.map Pv.p = qs := ⟨_, rfl⟩
    have hqm : qs.length = m := by rw [← hqs, List.length_map]; exact hm3
    have HQ3 := Lib.hid hqs
    have HQ5 := Lib.hid (e2.trans hqs)
    have HSQ : Hid (Small qs) := by show Small qs; rw [← hqs]; exact HS3.out
    have HS5 : Hid (∀ x ∈ z5, x.p.body.length ≤ 1048576) := pv_small (by rw [HQ5.out]; exact HSQ.out)
    have HZ5 := Lib.hid hz53
    have HITq : Hid (IsTrim hd ps hd5 qs) := by show IsTrim _ _ _ _; rw [← hqs]; exact HIT.out
    have HEQ : Hid (∀ (K K' : Option Addr) (k k' : Nat) (W : World), Pds W K qs → Pds W K' qs → Calls Try.prog 12 #[.agg #[.int .i64 hd5, .slice K m k], .agg #[.int .i64 hd5, .slice K' m k']] W fun e w' => e = .returned (.bool true) ∧ Below W.heap.size W w') := fun K K' k k' W h h' => by
      have := eqCfg_same K K' k k' hd5 qs W h h' (by omega) HSQ.out
      rw [hqm] at this
      exact this
    rw [hz53, hm3]
    have hb5 : Below w.heap.size w w5 := hb4x.trans (hb.mono hb4x.size)
    replace h0 := cell_keep hb (v := .int .i64 hd) (p := ⟨w.heap.size, 0, none⟩) (cell_alloc h0 _)
    replace h1 := cell_keep hb (v := .slice a ps.length c) (p := ⟨w.heap.size, 1, none⟩) (cell_alloc h1 _)
    replace s0 := cell_keep hb (v := .int .i64 hd5) (p := ⟨w3.heap.size, 0, none⟩) (cell_alloc s0 _)
    replace s1 := cell_keep hb (v := .slice A3 m cap3) (p := ⟨w3.heap.size, 1, none⟩) (cell_alloc s1 _)
    have x0 := cell_keep hb (v := .int .i64 hd) (p := ⟨w4.heap.size, 0, none⟩) (by simp)
    have x1 := cell_keep hb (v := .slice (some ⟨g4, 0, none⟩) ps.length ps.length) (p := ⟨w4.heap.size, 1, none⟩) (by simp)
    have HG5 := Lib.hid ((HG4.out.keep (below_box (.cells #[.int .i64 hd, .slice (some ⟨g4, 0, none⟩) ps.length ps.length] 25))).keep hb)
    have HOW5 := Lib.hid (HOW.out.keep hb)
    rw [World.size_alloc] at hog5
    have HO5 := Lib.hid hog5
    have HPO : Hid (∀ k, OF A5 z5 k → w4.heap.size + 1 ≤ k ∧ k < w5.heap.size) := fun k hk => hog5.ge hk
    have hs45 : w4.heap.size + 1 ≤ w5.heap.size := by have := hb.size; simpa using this
    clear hb hb4x HIM HG4 HOW hog5 hIT5 HIT HS3 hm3 hz53 e2 hqs
    generalize w3.heap.size = X3 at *
    generalize w4.heap.size = X4 at *
    have HP5 : Hid (∀ k, OF A3 z3 k → k < X3) := HP3
    clear HP3
    -- the box of the answer
    have hb5x : Below w.heap.size w (w5.alloc (.cells #[.int .i64 hd5, .slice A5 m cap5] 25)) := hb5.alloc hb5.size _
    have HE1 := Lib.hid (HEQ.out A5 A3 cap5 cap3 (w5.alloc (.cells #[.int .i64 hd5, .slice A5 m cap5] 25)) (by rw [← HQ5.out]; exact HO5.out.pds.alloc _) (by rw [← HQ3.out]; exact HG5.out.pds.alloc _))
    have lX3 : X3 < w5.heap.size := cell_lt s0
    go_wp2_with fail
    refine HE1.out.mono ?_
    rintro e w6 ⟨rfl, hb⟩
    have hb6 : Below w.heap.size w w6 := hb5x.trans (hb.mono hb5x.size)
    replace h0 := cell_keep hb (v := .int .i64 hd) (p := ⟨w.heap.size, 0, none⟩) (cell_alloc h0 _)
    replace h1 := cell_keep hb (v := .slice a ps.length c) (p := ⟨w.heap.size, 1, none⟩) (cell_alloc h1 _)
    replace s0 := cell_keep hb (v := .int .i64 hd5) (p := ⟨X3, 0, none⟩) (cell_alloc s0 _)
    replace s1 := cell_keep hb (v := .slice A3 m cap3) (p := ⟨X3, 1, none⟩) (cell_alloc s1 _)
    replace x0 := cell_keep hb (v := .int .i64 hd) (p := ⟨X4, 0, none⟩) (cell_alloc x0 _)
    replace x1 := cell_keep hb (v := .slice (some ⟨g4, 0, none⟩) ps.length ps.length) (p := ⟨X4, 1, none⟩) (cell_alloc x1 _)
    have y0 := cell_keep hb (v := .int .i64 hd5) (p := ⟨w5.heap.size, 0, none⟩) (by simp)
    have y1 := cell_keep hb (v := .slice A5 m cap5) (p := ⟨w5.heap.size, 1, none⟩) (by simp)
    have HG6 := Lib.hid ((HG5.out.keep (below_box (.cells #[.int .i64 hd5, .slice A5 m cap5] 25))).keep hb)
    have HO6 := Lib.hid ((HO5.out.keep (below_box (.cells #[.int .i64 hd5, .slice A5 m cap5] 25))).keep hb)
    have HOW6 := Lib.hid ((HOW5.out.alloc (.cells #[.int .i64 hd5, .slice A5 m cap5] 25)).keep hb)
    clear hb hb5 hb5x HE1 HG5 HO5 HOW5 lX3
    generalize w5.heap.size = X5 at *
    go_wp2
    go_region_held3 (fun W => W.cell? ⟨w.heap.size, 0, none⟩ = some (.int .i64 hd) ∧ W.cell? ⟨w.heap.size, 1, none⟩ = some (.slice a ps.length c) ∧ W.cell? ⟨X4, 0, none⟩ = some (.int .i64 hd) ∧ W.cell? ⟨X4, 1, none⟩ = some (.slice (some ⟨g4, 0, none⟩) ps.length ps.length))
      (first | exact ⟨cell_keep hb8 (cell_keep hb7 h0), cell_keep hb8 (cell_keep hb7 h1), cell_keep hb8 (cell_keep hb7 x0), cell_keep hb8 (cell_keep hb7 x1)⟩ | exact ⟨cell_keep hb7 h0, cell_keep hb7 h1, cell_keep hb7 x0, cell_keep hb7 x1⟩ | exact ⟨h0, h1, x0, x1⟩)
      (first | (go_at_call 11; refine (toCfg_any a c hd ps _ (HR.out.keep hb6.drew) hlen HSM.out).mono ?_; rintro e w7 ⟨g7, bs7, rfl, hg7, hown7, hb7⟩)
             | (go_at_call 12; refine (eqCfg_same _ _ _ _ hd ps _ (HOW6.out.drew.keep hb7).pds hown7.pds hlen HSM.out).mono ?_; rintro e w8 ⟨rfl, hb8⟩))
    have hbd : Below w6.heap.size w6 w8 := ((Below.refl w6.heap.size w6).drew.trans hb7).trans (hb8.mono hb7.size)
    have hb8' : Below w.heap.size w w8 := hb6.trans (hbd.mono hb6.size)
    replace h0 := cell_keep hbd h0
    replace h1 := cell_keep hbd h1
    replace s0 := cell_keep hbd s0
    replace s1 := cell_keep hbd s1
    replace x0 := cell_keep hbd x0
    replace x1 := cell_keep hbd x1
    replace y0 := cell_keep hbd y0
    replace y1 := cell_keep hbd y1
    have HG8 := Lib.hid (HG6.out.keep hbd)
    have HO8 := Lib.hid (HO6.out.keep hbd)
    have HMC := Lib.hid (markCfg_any hd g4 bs4 ps _ (HOW6.out.keep hbd) hlen HSM.out)
    clear hb6 hb7 hb8 hown7 hg7 HG6 HO6 HOW6 hbd
    go_wp2_with fail
    refine HMC.out.mono ?_
    rintro e w9 ⟨km, rfl, hkm, hf9⟩
    have hb9 : Below w.heap.size w w9 := hb8'.trans (hf9.below (fun k hk => by have := HPF.out k hk; omega) hb8'.size)
    replace h0 := hf9.cell h0 (fun h => by have := HPF.out _ h; simp only at this; omega)
    replace h1 := hf9.cell h1 (fun h => by have := HPF.out _ h; simp only at this; omega)
    replace s0 := hf9.cell s0 (fun h => by have := HPF.out _ h; simp only at this; omega)
    replace s1 := hf9.cell s1 (fun h => by have := HPF.out _ h; simp only at this; omega)
    replace y0 := hf9.cell y0 (fun h => by have := HPF.out _ h; simp only at this; omega)
    replace y1 := hf9.cell y1 (fun h => by have := HPF.out _ h; simp only at this; omega)
    have HG9 := Lib.hid (hf9.og HG8.out (fun k hk h => by have := HP5.out k hk; have := HPF.out k h; omega))
    have HO9 := Lib.hid (hf9.og HO8.out (fun k hk h => by have := HPO.out k hk; have := HPF.out k h; omega))
    have hkm' : ¬ km < 0 := by omega
    have HE2 := Lib.hid (HEQ.out A5 A3 cap5 cap3 w9 (by rw [← HQ5.out]; exact HO9.out.pds) (by rw [← HQ3.out]; exact HG9.out.pds))
    clear hf9 hb8' x0 x1 HMC HG8 HO8
    go_wp2_with fail
    refine HE2.out.mono ?_
    rintro e w10 ⟨rfl, hb⟩
    have hb10 : Below w.heap.size w w10 := hb9.trans (hb.mono hb9.size)
    replace h0 := cell_keep hb h0
    replace h1 := cell_keep hb h1
    replace s0 := cell_keep hb s0
    replace s1 := cell_keep hb s1
    replace y0 := cell_keep hb y0
    replace y1 := cell_keep hb y1
    have HG10 := Lib.hid (HG9.out.keep hb)
    have HMO := Lib.hid (markCfgO_any hd5 (X4 + 1) A5 cap5 z5 w10 (HO9.out.keep hb) (by have := HZ5.out; omega) HS5.out)
    rw [HZ5.out] at HMO
    clear hb hb9 HG9 HO9 HE2
    go_wp2_with fail
    refine HMO.out.mono ?_
    rintro e w11 ⟨rfl, hog11, hf11⟩
    have hb11 : Below w.heap.size w w11 := hb10.trans (hf11.below (fun k hk => by have := HPO.out k hk; omega) hb10.size)
    replace h0 := hf11.cell h0 (fun h => by have := HPO.out _ h; simp only at this; omega)
    replace h1 := hf11.cell h1 (fun h => by have := HPO.out _ h; simp only at this; omega)
    replace s0 := hf11.cell s0 (fun h => by have := HPO.out _ h; simp only at this; omega)
    replace s1 := hf11.cell s1 (fun h => by have := HPO.out _ h; simp only at this; omega)
    replace y0 := hf11.cell y0 (fun h => by have := HPO.out _ h; simp only at this; omega)
    replace y1 := hf11.cell y1 (fun h => by have := HPO.out _ h; simp only at this; omega)
    have HG11 := Lib.hid (hf11.og HG10.out (fun k hk h => by have := HP5.out k hk; have := HPO.out k h; omega))
    have HM11 := Lib.hid hog11.pds
    have hbe := endV_bound z5 1 HS5.out
    obtain ⟨en, hen⟩ : ∃ en, endV 1 z5 = en := ⟨_, rfl⟩
    have HEN := Lib.hid hen
    rw [hen] at hbe ⊢
    have HHC : Hid (∀ W, Pds W A5 ((markV 1 z5).map Pv.p) → Calls Try.prog 14 #[.agg #[.int .i64 hd5, .slice A5 m cap5], .int .i64 1] W fun e w' => e = .returned (.int .i64 en) ∧ Below W.heap.size W w') := fun W h => by
      have := heldCfg_any hd5 A5 cap5 z5 W h (by have := HZ5.out; omega) HS5.out
      rw [HZ5.out, HEN.out] at this
      exact this
    have hq0 : ¬ en < 0 := by omega
    have hq1 : (en != en) = false := by simp
    have HH1 := Lib.hid (HHC.out w11 HM11.out)
    clear hf11 hog11 hb10 HG10 HMO hen
    go_wp2_with fail
    refine HH1.out.mono ?_
    rintro e w12 ⟨rfl, hb⟩
    have hb12 : Below w.heap.size w w12 := hb11.trans (hb.mono hb11.size)
    replace h0 := cell_keep hb h0
    replace h1 := cell_keep hb h1
    replace s0 := cell_keep hb s0
    replace s1 := cell_keep hb s1
    replace y0 := cell_keep hb y0
    replace y1 := cell_keep hb y1
    have HG12 := Lib.hid (HG11.out.keep hb)
    have HM12 := Lib.hid (HM11.out.keep hb)
    clear hb hb11 HG11 HM11 HH1
    go_wp2_with fail
    refine (toCfg_any a c hd ps _ (HR.out.keep hb12) hlen HSM.out).mono ?_
    rintro e w13 ⟨g13, bs13, rfl, hg13, ho13, hb⟩
    have hb13 : Below w.heap.size w w13 := hb12.trans (hb.mono hb12.size)
    replace s0 := cell_keep hb s0
    replace s1 := cell_keep hb s1
    replace y0 := cell_keep hb y0
    replace y1 := cell_keep hb y1
    have HG13 := Lib.hid (HG12.out.keep hb)
    have HM13 := Lib.hid (HM12.out.keep hb)
    clear hb hb12 hg13 h0 h1 HG12 HM12
    go_wp2_with fail
    refine (implTrim_any hd ps _ _ _ ho13.pds hlen HSM.out).mono ?_
    rintro e w14 ⟨hd14, A14, cap14, z14, rfl, hIT14, hog14, hb⟩
    obtain ⟨e1, e2⟩ := hIT14.one HITq.out
    subst e1
    have hz14 : z14.length = m := by have := congrArg List.length e2; rw [List.length_map, hqm] at this; exact this
    rw [hz14]
    have hb14 : Below w.heap.size w w14 := hb13.trans (hb.mono hb13.size)
    replace s0 := cell_keep hb s0
    replace s1 := cell_keep hb s1
    replace y0 := cell_keep hb y0
    replace y1 := cell_keep hb y1
    have HG14 := Lib.hid (HG13.out.keep hb)
    have HM14 := Lib.hid (HM13.out.keep hb)
    have HO14 : Hid (Pds w14 A14 qs) := by show Pds _ _ _; rw [← e2]; exact hog14.pds
    have lX3 := cell_lt s0
    have lX5 := cell_lt y0
    simp only at lX3 lX5
    have HE3 := Lib.hid (HEQ.out A14 A3 cap14 cap3 (w14.alloc (.cells #[.int .i64 hd14, .slice A14 m cap14] 25)) (HO14.out.alloc _) (by rw [← HQ3.out]; exact HG14.out.pds.alloc _))
    clear hb hb13 ho13 hIT14 hog14 e2 hz14 HG13 HM13
    have hb14x : Below w.heap.size w (w14.alloc (.cells #[.int .i64 hd14, .slice A14 m cap14] 25)) := hb14.alloc hb14.size _
    go_wp2_with fail
    refine HE3.out.mono ?_
    rintro e w15 ⟨rfl, hb⟩
    have hb15 : Below w.heap.size w w15 := hb14x.trans (hb.mono hb14x.size)
    replace y0 := cell_keep hb (v := .int .i64 hd14) (p := ⟨X5, 0, none⟩) (cell_alloc y0 _)
    replace y1 := cell_keep hb (v := .slice A5 m cap5) (p := ⟨X5, 1, none⟩) (cell_alloc y1 _)
    have HH2 := Lib.hid (HHC.out w15 ((HM14.out.alloc _).keep hb))
    clear hb hb14 hb14x s0 s1 HE3
    go_wp2_with fail
    refine HH2.out.mono ?_
    rintro e w16 ⟨rfl, hb⟩
    have hb16 : Below w.heap.size w w16 := hb15.trans (hb.mono hb15.size)
    clear hb hb15
    go_wp2
    go_ret
    exact ⟨rfl, hb16⟩

end Go.Proofs.Ytkgiklmdpdakbaa
