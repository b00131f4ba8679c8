/- Productions are drawn: l71Cfg. No condition. -/
import Derived.Test.YtkgiklmdpdakbaaJ9
import Derived.IntWalk
namespace Go.Proofs.Ytkgiklmdpdakbaa
open Go.RowKit
set_option linter.unusedVariables false

theorem Lim.up_ {M M' : Nat} (hM : M ≤ M') {p : Pt} (h : Lim M p) : Lim M' p := by
  induction h with
  | mk k t lo hi kids mn mx a b c d _ ih => exact .mk k t lo hi kids mn mx (by omega) (by omega) (by omega) (by omega) ih

set_option maxRecDepth 100000 in
set_option maxHeartbeats 4000000 in
theorem cfgDraw_any (B g N : Nat) (w : World) (hrd : Rd w B g N) (hB : B ≤ w.heap.size) (hN : N ≤ 100) :
    Calls Try.prog 15 #[.pointer (some ⟨g, 0, none⟩)] w (CfgDrawn w B g (N + 30010)) := by
  obtain ⟨i0, hi0, hz0, hz1, hz2⟩ := info_parts info46
  have HI := Lib.hid (And.intro hi0 (And.intro hz0 (And.intro hz1 hz2)))
  clear hi0 hz0 hz1 hz2
  obtain ⟨i1, hi0, hz0, hz1, hz2⟩ := info_parts info43
  have HI1 := Lib.hid (And.intro hi0 (And.intro hz0 (And.intro hz1 hz2)))
  clear hi0 hz0 hz1 hz2
  have HBX := Lib.hid (below_box (w := w) (.cells #[.int .i64 0, .slice none 0 0] 25))
  have HRB := Lib.hid (Own.new w 25 #[.int .i64 0, .slice none 0 0])
  have HGR := Lib.hid (gram_any B g N _ (hrd.alloc hB (.cells #[.int .i64 0, .slice none 0 0] 25)) (by simp; omega) hN)
  have hgB := hrd.ltB
  clear hrd
  go_enter Try.func15, Try.ntmps15
  go_wp2_with fail
  refine HGR.out.mono ?_
  rintro e w1 ⟨rs, a, c, T, rfl, hgr, h1, h4, hl, hrd2, hg2⟩
  have HCO := Lib.hid (cfgOf_any rs a c w1 hgr.rus (by omega) (fun r hr => ⟨by have := (hl r hr).1; omega, (hl r hr).2.up_ (by decide)⟩))
  have HR1 := Lib.hid (own_touch HRB.out hg2 (by omega))
  have HG2 := Lib.hid hg2
  have HRD2 := Lib.hid hrd2
  have hs2 := hg2.size
  simp only [World.size_alloc] at hs2
  clear hgr h1 h4 hl hrd2 hg2 HGR
  go_wp2_with fail
  refine HCO.out.mono ?_
  rintro e w2 ⟨hd, A, cap, xs, ok, rfl, hog, hb2, hcase⟩
  have HSM : Hid (xs.length ≤ 400 ∧ ∀ x ∈ xs, x.p.body.length ≤ 160) := by
    rcases hcase with ⟨_, _, _, _, h5⟩ | ⟨_, _, h5, _⟩
    · unfold cfgOkB at h5
      simp only [Bool.and_eq_true, decide_eq_true_eq] at h5
      obtain ⟨⟨⟨h6, h7⟩, h8⟩, h9⟩ := h5
      rw [List.length_map] at h8
      refine ⟨h8, fun x hx => ?_⟩
      have h10 := allOk_iff.1 h9
      obtain ⟨i, hi, rfl⟩ := List.getElem_of_mem hx
      have h11 := h10 i (by simpa using hi) (by simpa using hi)
      unfold pdOkB bodyOkB at h11
      simp only [Bool.and_eq_true, decide_eq_true_eq, List.getElem_map] at h11
      exact h11.2.1
    · subst h5
      exact ⟨by simp, fun x hx => by simp at hx⟩
  have HHD : Hid (0 ≤ hd ∧ hd ≤ 200) := by
    rcases hcase with ⟨_, _, _, _, h5⟩ | ⟨_, h4, _, _⟩
    · unfold cfgOkB at h5
      simp only [Bool.and_eq_true, decide_eq_true_eq] at h5
      obtain ⟨⟨⟨h6, h7⟩, h8⟩, h9⟩ := h5
      exact ⟨by omega, by omega⟩
    · subst h4
      exact ⟨by omega, by omega⟩
  have hs3 := hb2.size
  have HCD : Hid (CD w B g (N + 30000) w2.heap.size hd A cap xs (w2.alloc (.cells #[.int .i64 hd, .slice A xs.length cap] 25))) := by
    have hb3 := below_box (w := w2) (.cells #[.int .i64 hd, .slice A xs.length cap] 25)
    refine ⟨Own.new w2 25 #[.int .i64 hd, .slice A xs.length cap], (HR1.out.keep hb2).keep hb3, (hog.low (by omega)).keep hb3, (HRD2.out.below (hb2.mono (by omega))).below (hb3.mono (by omega)), ?_, by omega, hB⟩
    refine grown_below (grown_below ?_ hb2) hb3
    exact grown_trans ⟨HBX.out.os, HBX.out.tape, HBX.out.output, HBX.out.size, fun k hk _ => HBX.out.block k hk⟩ HG2.out
  clear hog hb2 hcase HR1 HG2 HRD2 HCO HRB HBX
  generalize hcb : w2.heap.size = cb at *
  go_wp2_with fail
  refine (pick_any B g (N + 30000) 14 _ HCD.out.rd (by omega) (by omega) (by omega)).mono ?_
  rintro e w3 ⟨v, rfl, hv0, hv1, hrd3, hg3⟩
  have HCD3 := Lib.hid (HCD.out.touch hg3 hrd3)
  clear HCD hrd3 hg3 hv1 hs2 hs3 hcb
  by_cases hv : 0 < v
  · have hv' : v > 0 := hv
    have o0 := (HCD3.out.o.cell 0).trans rfl
    have o1 := (HCD3.out.o.cell 1).trans rfl
    have r0 := (HCD3.out.r.cell 0).trans rfl
    have r1 := (HCD3.out.r.cell 1).trans rfl
    have f0 := HCD3.out.r.frozen 0
    have f1 := HCD3.out.r.frozen 1
    have lt5 := HCD3.out.r.lt
    have OF0 := HCD3.out.r.set_ 0 (.int .i64 hd)
    have OF1 := OF0.set_ 1 (.slice A xs.length cap)
    have z0 := (OF0.cell 0).trans rfl
    have z1 := (OF1.cell 1).trans rfl
    simp only [List.set_cons_zero, List.set_cons_succ, List.getElem?_cons_zero, List.getElem?_cons_succ] at o0 o1 r0 r1 z0 z1
    have FIN := Lib.hid (HCD3.out.small (by have := HSM.out.1; omega) (fun x hx => by have := HSM.out.2 x hx; omega))
    clear OF0 OF1
    go_wp2
    refine bodyPost_ret (v := .agg #[.int .i64 hd, .slice A xs.length cap]) (by simp [results, Try.results15, go_sem, z0, z1]) rfl ?_
    exact FIN.out.mono (by omega)
  · have hv' : ¬ 0 < v := hv
    by_cases hx0 : xs.length = 0
    · have hx0' : ((xs.length : Int) == 0) = true := by simp [hx0]
      have HX0 := Lib.hid hx0
      clear hx0
      have o0 := (HCD3.out.o.cell 0).trans rfl
      have o1 := (HCD3.out.o.cell 1).trans rfl
      have r0 := (HCD3.out.r.cell 0).trans rfl
      have r1 := (HCD3.out.r.cell 1).trans rfl
      have f0 := HCD3.out.r.frozen 0
      have f1 := HCD3.out.r.frozen 1
      have lt5 := HCD3.out.r.lt
      have OF0 := HCD3.out.r.set_ 0 (.int .i64 hd)
      have OF1 := OF0.set_ 1 (.slice A xs.length cap)
      have z0 := (OF0.cell 0).trans rfl
      have z1 := (OF1.cell 1).trans rfl
      simp only [List.set_cons_zero, List.set_cons_succ, List.getElem?_cons_zero, List.getElem?_cons_succ] at o0 o1 r0 r1 z0 z1
      have FIN := Lib.hid (HCD3.out.small (by have := HSM.out.1; omega) (fun x hx => by have := HSM.out.2 x hx; omega))
      clear OF0 OF1
      go_wp2
      refine bodyPost_ret (v := .agg #[.int .i64 hd, .slice A xs.length cap]) (by simp [results, Try.results15, go_sem, z0, z1]) rfl ?_
      exact FIN.out.mono (by omega)
    · have hx0' : ((xs.length : Int) == 0) = false := by simp only [beq_eq_false_iff_ne, ne_eq]; omega
      have hxl := HSM.out.1
      have o0 := (HCD3.out.o.cell 0).trans rfl
      have o1 := (HCD3.out.o.cell 1).trans rfl
      simp only [List.getElem?_cons_zero, List.getElem?_cons_succ] at o0 o1
      have hxp : 0 < xs.length := by omega
      have HX0 := Lib.hid hx0
      clear hx0
      go_wp2_with fail
      refine (pick_any B g (N + 30001) (xs.length : Int) _ HCD3.out.rd (by omega) (by omega) (by omega)).mono ?_
      rintro e w4 ⟨k0, rfl, hk0, hk1, hrd4, hg4⟩
      obtain ⟨k, rfl⟩ : ∃ k : Nat, k0 = k := ⟨k0.toNat, by omega⟩
      have hk : k < xs.length := by omega
      have hk' : (k : Int) < (xs.length : Int) := by omega
      have HCD4 := Lib.hid (HCD3.out.touch hg4 hrd4)
      clear HCD3 hrd4 hg4 hk1 o0 o1 hk0
      go_wp2_with fail
      refine (pick_any B g (N + 30001 + 1) 6 _ HCD4.out.rd (by omega) (by omega) (by omega)).mono ?_
      rintro e w5 ⟨q, rfl, hq0, hq1, hrd5, hg5⟩
      have HCD5 := Lib.hid (HCD4.out.touch hg5 hrd5)
      clear HCD4 hrd5 hg5
      obtain ⟨lb, cap', e2, hlb, hlb2⟩ := own_some HCD5.out.p.o hxp
      injection e2 with e2 _ e3
      subst e2 e3
      have HL9 : Hid (∀ x ∈ xs, x.p.body.length ≤ 999) := fun x hx => by have := HSM.out.2 x hx; omega
      have o0 := (HCD5.out.o.cell 0).trans rfl
      have o1 := (HCD5.out.o.cell 1).trans rfl
      have of0 := HCD5.out.o.frozen 0
      have of1 := HCD5.out.o.frozen 1
      have olt := HCD5.out.o.lt
      have hcbw := HCD5.out.cb
      simp only [List.getElem?_cons_zero, List.getElem?_cons_succ] at o0 o1
      rcases (show q = 0 ∨ q = 1 ∨ q = 2 ∨ q = 3 ∨ q = 4 ∨ q = 5 by omega) with rfl | rfl | rfl | rfl | rfl | rfl
      · have HB6 := Lib.hid (below_box (w := w5) (.cells #[.int .i64 0, .int .i64 1, .int .i64 201] 3))
        have HCD6 := Lib.hid (HCD5.out.keep HB6.out)
        have HNW := Lib.hid (Own.new w5 3 #[.int .i64 0, .int .i64 1, .int .i64 201])
        have hgw : g < w5.heap.size := by have := HCD5.out.g_lt; have := HCD5.out.fr.size; omega
        generalize hX : w5.alloc (.cells #[.int .i64 0, .int .i64 1, .int .i64 201] 3) = X6 at HB6 HCD6 HNW
        have HX := Lib.hid hX
        clear hX o0 o1 of0 of1
        go_wp2_with fail
        rw [HX.out]
        refine (pick_any B g _ 3 _ HCD6.out.rd (by omega) (by omega) (by omega)).mono ?_
        rintro e w7 ⟨u, rfl, hu0, hu1, hrd7, hg7⟩
        have HCD7 := Lib.hid (HCD6.out.touch hg7 hrd7)
        have HN7 := Lib.hid (own_touch HNW.out hg7 (by omega))
        clear hrd7 hg7
        have o0 := (HCD7.out.o.cell 0).trans rfl
        have o1 := (HCD7.out.o.cell 1).trans rfl
        have of0 := HCD7.out.o.frozen 0
        have olt7 := HCD7.out.o.lt
        simp only [List.getElem?_cons_zero, List.getElem?_cons_succ] at o0 o1
        have hcr : cb ≠ w.heap.size := by omega
        have hgl := HCD5.out.g_lt
        have hBB := HCD5.out.hB
        rcases (show u = 0 ∨ u = 1 ∨ u = 2 by omega) with rfl | rfl | rfl
        · have n0 := (HN7.out.cell 0).trans rfl
          simp only [List.getElem?_cons_zero, List.getElem?_cons_succ] at n0
          have HO8 := Lib.hid (HCD7.out.o.set_ 0 (.int .i64 0))
          have HR8 := Lib.hid (HCD7.out.r.far (p := ⟨cb, 0, none⟩) (fun e => hcr e.symm) (.int .i64 0))
          have HDC := Lib.hid (((HCD7.out.p.far HCD7.out.o (by decide) (by decide) (i := 0) (.int .i64 0))).dc (by omega) (fun x hx => by have := HL9.out x hx; omega))
          have HRD8 := Lib.hid (HCD7.out.rd.setCell (p := ⟨cb, 0, none⟩) (by show B ≤ cb; omega) (.int .i64 0))
          have HFR8 : Hid (w.grownBy (w7.setCell ⟨cb, 0, none⟩ (.int .i64 0)) (some g)) := ⟨HCD7.out.fr.os, HCD7.out.fr.tape, HCD7.out.fr.output, by simp; exact HCD7.out.fr.size, fun z hz hn => (Below.heap_setCell _ _ _ z (by show z ≠ cb; omega)).trans (HCD7.out.fr.block z hz hn)⟩
          have o0 := (HO8.out.cell 0).trans rfl
          have o1 := (HO8.out.cell 1).trans rfl
          have r0 := (HR8.out.cell 0).trans rfl
          have r1 := (HR8.out.cell 1).trans rfl
          have f0 := HR8.out.frozen 0
          have f1 := HR8.out.frozen 1
          have lt5 := HR8.out.lt
          have OF0 := HR8.out.set_ 0 (.int .i64 0)
          have OF1 := OF0.set_ 1 (.slice (some ⟨lb, 0, none⟩) xs.length cap)
          have z0 := (OF0.cell 0).trans rfl
          have z1 := (OF1.cell 1).trans rfl
          simp only [List.set_cons_zero, List.set_cons_succ, List.getElem?_cons_zero, List.getElem?_cons_succ] at o0 o1 r0 r1 z0 z1
          have FIN := Lib.hid (done_box (hd := 0) HR8.out HRD8.out HFR8.out hBB HDC.out)
          clear OF0 OF1
          go_wp2
          refine bodyPost_ret (v := .agg #[.int .i64 0, .slice (some ⟨lb, 0, none⟩) xs.length cap]) (by simp [results, Try.results15, go_sem, z0, z1]) rfl ?_
          exact FIN.out.mono (by omega)
        · have n0 := (HN7.out.cell 1).trans rfl
          simp only [List.getElem?_cons_zero, List.getElem?_cons_succ] at n0
          have HO8 := Lib.hid (HCD7.out.o.set_ 0 (.int .i64 1))
          have HR8 := Lib.hid (HCD7.out.r.far (p := ⟨cb, 0, none⟩) (fun e => hcr e.symm) (.int .i64 1))
          have HDC := Lib.hid (((HCD7.out.p.far HCD7.out.o (by decide) (by decide) (i := 0) (.int .i64 1))).dc (by omega) (fun x hx => by have := HL9.out x hx; omega))
          have HRD8 := Lib.hid (HCD7.out.rd.setCell (p := ⟨cb, 0, none⟩) (by show B ≤ cb; omega) (.int .i64 1))
          have HFR8 : Hid (w.grownBy (w7.setCell ⟨cb, 0, none⟩ (.int .i64 1)) (some g)) := ⟨HCD7.out.fr.os, HCD7.out.fr.tape, HCD7.out.fr.output, by simp; exact HCD7.out.fr.size, fun z hz hn => (Below.heap_setCell _ _ _ z (by show z ≠ cb; omega)).trans (HCD7.out.fr.block z hz hn)⟩
          have o0 := (HO8.out.cell 0).trans rfl
          have o1 := (HO8.out.cell 1).trans rfl
          have r0 := (HR8.out.cell 0).trans rfl
          have r1 := (HR8.out.cell 1).trans rfl
          have f0 := HR8.out.frozen 0
          have f1 := HR8.out.frozen 1
          have lt5 := HR8.out.lt
          have OF0 := HR8.out.set_ 0 (.int .i64 1)
          have OF1 := OF0.set_ 1 (.slice (some ⟨lb, 0, none⟩) xs.length cap)
          have z0 := (OF0.cell 0).trans rfl
          have z1 := (OF1.cell 1).trans rfl
          simp only [List.set_cons_zero, List.set_cons_succ, List.getElem?_cons_zero, List.getElem?_cons_succ] at o0 o1 r0 r1 z0 z1
          have FIN := Lib.hid (done_box (hd := 1) HR8.out HRD8.out HFR8.out hBB HDC.out)
          clear OF0 OF1
          go_wp2
          refine bodyPost_ret (v := .agg #[.int .i64 1, .slice (some ⟨lb, 0, none⟩) xs.length cap]) (by simp [results, Try.results15, go_sem, z0, z1]) rfl ?_
          exact FIN.out.mono (by omega)
        · have n0 := (HN7.out.cell 2).trans rfl
          simp only [List.getElem?_cons_zero, List.getElem?_cons_succ] at n0
          have HO8 := Lib.hid (HCD7.out.o.set_ 0 (.int .i64 201))
          have HR8 := Lib.hid (HCD7.out.r.far (p := ⟨cb, 0, none⟩) (fun e => hcr e.symm) (.int .i64 201))
          have HDC := Lib.hid (((HCD7.out.p.far HCD7.out.o (by decide) (by decide) (i := 0) (.int .i64 201))).dc (by omega) (fun x hx => by have := HL9.out x hx; omega))
          have HRD8 := Lib.hid (HCD7.out.rd.setCell (p := ⟨cb, 0, none⟩) (by show B ≤ cb; omega) (.int .i64 201))
          have HFR8 : Hid (w.grownBy (w7.setCell ⟨cb, 0, none⟩ (.int .i64 201)) (some g)) := ⟨HCD7.out.fr.os, HCD7.out.fr.tape, HCD7.out.fr.output, by simp; exact HCD7.out.fr.size, fun z hz hn => (Below.heap_setCell _ _ _ z (by show z ≠ cb; omega)).trans (HCD7.out.fr.block z hz hn)⟩
          have o0 := (HO8.out.cell 0).trans rfl
          have o1 := (HO8.out.cell 1).trans rfl
          have r0 := (HR8.out.cell 0).trans rfl
          have r1 := (HR8.out.cell 1).trans rfl
          have f0 := HR8.out.frozen 0
          have f1 := HR8.out.frozen 1
          have lt5 := HR8.out.lt
          have OF0 := HR8.out.set_ 0 (.int .i64 201)
          have OF1 := OF0.set_ 1 (.slice (some ⟨lb, 0, none⟩) xs.length cap)
          have z0 := (OF0.cell 0).trans rfl
          have z1 := (OF1.cell 1).trans rfl
          simp only [List.set_cons_zero, List.set_cons_succ, List.getElem?_cons_zero, List.getElem?_cons_succ] at o0 o1 r0 r1 z0 z1
          have FIN := Lib.hid (done_box (hd := 201) HR8.out HRD8.out HFR8.out hBB HDC.out)
          clear OF0 OF1
          go_wp2
          refine bodyPost_ret (v := .agg #[.int .i64 201, .slice (some ⟨lb, 0, none⟩) xs.length cap]) (by simp [results, Try.results15, go_sem, z0, z1]) rfl ?_
          exact FIN.out.mono (by omega)
      · obtain ⟨qh, qb⟩ := pvCells_get xs k hk
        have p0 := own_cellN HCD5.out.p.o _ _ qh
        have hgl := HCD5.out.g_lt
        have hBB := HCD5.out.hB
        have HQH := Lib.hid qh
        have HP9 := Lib.hid (fun X (hX : Below w5.heap.size w5 X) => pick_any B g (N + 30001 + 1 + 1) 9 X ((HCD5.out.keep hX).rd) (by omega) (by omega) (by omega))
        clear qh qb o0
        go_wp2
        refine wp_region_held_drew (S := (fun X => X.cell? ⟨cb, 1, none⟩ = some (.slice (some ⟨lb, 0, none⟩) xs.length cap))) (by kernel_rfl) ?_ (fun hHeld => ?_)
        · exact o1
        (first
          | (refine held_take (i := 0) (v := ?_) rfl (by kernel_rfl) (by kernel_rfl) (by kernel_rfl) (fun _ _ _ h => h) (Or.inl ⟨rfl, ?_⟩) (by assumption) ?_; rotate_left; (intro X hSw; (try dsimp only at hSw); (go_simp <;> with_reducible rfl)))
          | (refine held_take (i := 0) (v := undef) rfl (by kernel_rfl) (by kernel_rfl) (by kernel_rfl) (fun _ _ _ h => h) (Or.inr ⟨rfl, rfl⟩) (by assumption) ?_)); simp only [Act.put, List.setIfInBounds_toArray, List.set_cons_zero, List.set_cons_succ]
        (first
          | (refine held_take (i := 1) (v := ?_) rfl (by kernel_rfl) (by kernel_rfl) (by kernel_rfl) (fun _ _ _ h => h) (Or.inl ⟨rfl, ?_⟩) (by assumption) ?_; rotate_left; (intro X hSw; (try dsimp only at hSw); (go_simp <;> with_reducible rfl)))
          | (refine held_take (i := 1) (v := undef) rfl (by kernel_rfl) (by kernel_rfl) (by kernel_rfl) (fun _ _ _ h => h) (Or.inr ⟨rfl, rfl⟩) (by assumption) ?_)); simp only [Act.put, List.setIfInBounds_toArray, List.set_cons_zero, List.set_cons_succ]
        (first
          | (refine held_take (i := 2) (v := ?_) rfl (by kernel_rfl) (by kernel_rfl) (by kernel_rfl) (fun _ _ _ h => h) (Or.inl ⟨rfl, ?_⟩) (by assumption) ?_; rotate_left; (intro X hSw; (try dsimp only at hSw); (go_simp <;> with_reducible rfl)))
          | (refine held_take (i := 2) (v := undef) rfl (by kernel_rfl) (by kernel_rfl) (by kernel_rfl) (fun _ _ _ h => h) (Or.inr ⟨rfl, rfl⟩) (by assumption) ?_)); simp only [Act.put, List.setIfInBounds_toArray, List.set_cons_zero, List.set_cons_succ]
        (first
          | (refine held_take (i := 3) (v := ?_) rfl (by kernel_rfl) (by kernel_rfl) (by kernel_rfl) (fun _ _ _ h => h) (Or.inl ⟨rfl, ?_⟩) (by assumption) ?_; rotate_left; (intro X hSw; (try dsimp only at hSw); (go_simp <;> with_reducible rfl)))
          | (refine held_take (i := 3) (v := undef) rfl (by kernel_rfl) (by kernel_rfl) (by kernel_rfl) (fun _ _ _ h => h) (Or.inr ⟨rfl, rfl⟩) (by assumption) ?_)); simp only [Act.put, List.setIfInBounds_toArray, List.set_cons_zero, List.set_cons_succ]
        refine wpAnyH_ready (rs := [4]) (by kernel_rfl) (by simp) ?_
        refine AllReadyH.cons rfl (fun K hK => ?_) AllReadyH.nil
        go_simp
        go_wp2_with (go_at_call 37; refine (HP9.out _ (Below.refl _ _).drew).mono ?_; rintro e w7 ⟨u, rfl, hu0, hu1, hrd7, hg7⟩)
        have HCD7 := Lib.hid ((HCD5.out.keep (Below.refl _ _).drew).touch hg7 hrd7)
        have o1' := (HCD7.out.o.cell 1).trans rfl
        simp only [List.getElem?_cons_zero, List.getElem?_cons_succ] at o1'
        clear hrd7 hg7
        have hne : lb ≠ cb := fun e => own_ne_own HCD7.out.p.o HCD7.out.o (by decide) lb rfl e
        have hne2 : lb ≠ w.heap.size := by omega
        have pf0 : w7.frozen? ⟨lb, k * 2, none⟩ = false := own_frozen HCD7.out.p.o _
        have p0' := own_cellN HCD7.out.p.o _ _ HQH.out
        have hlb7 := cell_lt p0'
        simp only at hlb7
        have HDC := Lib.hid (HCD7.out.p.dcHead hk (by omega) HL9.out (u - 1))
        have HO6 := Lib.hid (HCD7.out.o.far (p := ⟨lb, k * 2, none⟩) (fun e => hne e.symm) (.int .i64 (u - 1)))
        have HR6 := Lib.hid (HCD7.out.r.far (p := ⟨lb, k * 2, none⟩) (fun e => hne2 e.symm) (.int .i64 (u - 1)))
        have HRD6 := Lib.hid (HCD7.out.rd.setCell (p := ⟨lb, k * 2, none⟩) (by have := HCD7.out.hB; show B ≤ lb; omega) (.int .i64 (u - 1)))
        have HFR6 : Hid (w.grownBy (w7.setCell ⟨lb, k * 2, none⟩ (.int .i64 (u - 1))) (some g)) := ⟨HCD7.out.fr.os, HCD7.out.fr.tape, HCD7.out.fr.output, Nat.le_trans HCD7.out.fr.size (by simp), fun z hz hn => (Below.heap_setCell _ _ _ z (by show z ≠ lb; omega)).trans (HCD7.out.fr.block z hz hn)⟩
        have hw := IntWalk.i64_in (u - 1) (by omega)
        refine hK.out _ _ ?_ (fun hHeld => ?_)
        · exact o1'
        clear hK K p0
        (first
          | (refine held_take (i := 5) (v := ?_) rfl (by kernel_rfl) (by kernel_rfl) (by kernel_rfl) (fun _ _ _ h => h) (Or.inl ⟨rfl, ?_⟩) (by assumption) ?_; rotate_left; (intro X hSw; (try dsimp only at hSw); (go_simp <;> with_reducible rfl)))
          | (refine held_take (i := 5) (v := undef) rfl (by kernel_rfl) (by kernel_rfl) (by kernel_rfl) (fun _ _ _ h => h) (Or.inr ⟨rfl, rfl⟩) (by assumption) ?_)); simp only [Act.put, List.setIfInBounds_toArray, List.set_cons_zero, List.set_cons_succ]
        (first
          | (refine held_take (i := 6) (v := ?_) rfl (by kernel_rfl) (by kernel_rfl) (by kernel_rfl) (fun _ _ _ h => h) (Or.inl ⟨rfl, ?_⟩) (by assumption) ?_; rotate_left; (intro X hSw; (try dsimp only at hSw); (go_simp <;> with_reducible rfl)))
          | (refine held_take (i := 6) (v := undef) rfl (by kernel_rfl) (by kernel_rfl) (by kernel_rfl) (fun _ _ _ h => h) (Or.inr ⟨rfl, rfl⟩) (by assumption) ?_)); simp only [Act.put, List.setIfInBounds_toArray, List.set_cons_zero, List.set_cons_succ]
        (first
          | (refine held_take (i := 7) (v := ?_) rfl (by kernel_rfl) (by kernel_rfl) (by kernel_rfl) (fun _ _ _ h => h) (Or.inl ⟨rfl, ?_⟩) (by assumption) ?_; rotate_left; (intro X hSw; (try dsimp only at hSw); (go_simp <;> with_reducible rfl)))
          | (refine held_take (i := 7) (v := undef) rfl (by kernel_rfl) (by kernel_rfl) (by kernel_rfl) (fun _ _ _ h => h) (Or.inr ⟨rfl, rfl⟩) (by assumption) ?_)); simp only [Act.put, List.setIfInBounds_toArray, List.set_cons_zero, List.set_cons_succ]
        refine wpAnyH_ready (rs := [8]) (by kernel_rfl) (by simp) ?_
        refine AllReadyH.cons rfl (fun K hK => ?_) AllReadyH.nil
        go_simp
        refine hK.out _ _ ?_ (fun hHeld => ?_)
        · exact (HO6.out.cell 1).trans rfl
        clear hK K
        refine wpAnyH_done (by kernel_rfl) ?_ _
        have o0 := (HO6.out.cell 0).trans rfl
        have o1 := (HO6.out.cell 1).trans rfl
        have r0 := (HR6.out.cell 0).trans rfl
        have r1 := (HR6.out.cell 1).trans rfl
        have f0 := HR6.out.frozen 0
        have f1 := HR6.out.frozen 1
        have lt5 := HR6.out.lt
        have OF0 := HR6.out.set_ 0 (.int .i64 hd)
        have OF1 := OF0.set_ 1 (.slice (some ⟨lb, 0, none⟩) xs.length cap)
        have z0 := (OF0.cell 0).trans rfl
        have z1 := (OF1.cell 1).trans rfl
        simp only [List.set_cons_zero, List.set_cons_succ, List.getElem?_cons_zero, List.getElem?_cons_succ] at o0 o1 r0 r1 z0 z1
        have FIN := Lib.hid (by have h := done_box (hd := hd) HR6.out HRD6.out HFR6.out hBB HDC.out; rw [List.length_set] at h; exact h)
        clear OF0 OF1
        go_wp2
        refine bodyPost_ret (v := .agg #[.int .i64 hd, .slice (some ⟨lb, 0, none⟩) xs.length cap]) (by simp [results, Try.results15, go_sem, z0, z1]) rfl ?_
        exact FIN.out.mono (by omega)
      · obtain ⟨qh, qb⟩ := pvCells_get xs k hk
        have p1 := own_cellN HCD5.out.p.o _ _ qb
        unfold Pv.sl at p1
        have hgl := HCD5.out.g_lt
        have hBB := HCD5.out.hB
        have HQB := Lib.hid qb
        have HC0 := Lib.hid (HCD5.out.keep (Below.refl _ _).drew)
        have hwz := HCD5.out.fr.size
        have hd0 : (w5.drew).heap.size = w5.heap.size := rfl
        clear qh qb o0
        go_wp2
        refine wp_region_held_drew (S := (fun X => X.cell? ⟨cb, 1, none⟩ = some (.slice (some ⟨lb, 0, none⟩) xs.length cap))) (by kernel_rfl) ?_ (fun hHeld => ?_)
        · exact o1
        have p1 : w5.drew.cell? ⟨lb, k * 2 + 1, none⟩ = some (.slice xs[k].K xs[k].p.body.length xs[k].kc) := p1
        clear o1 HCD5 of0 of1
        generalize w5.drew = v0 at *
        (first
          | (refine held_take (i := 0) (v := ?_) rfl (by kernel_rfl) (by kernel_rfl) (by kernel_rfl) (fun _ _ _ h => h) (Or.inl ⟨rfl, ?_⟩) (by assumption) ?_; rotate_left; (intro X hSw; (try dsimp only at hSw); (go_simp <;> with_reducible rfl)))
          | (refine held_take (i := 0) (v := undef) rfl (by kernel_rfl) (by kernel_rfl) (by kernel_rfl) (fun _ _ _ h => h) (Or.inr ⟨rfl, rfl⟩) (by assumption) ?_)); simp only [Act.put, List.setIfInBounds_toArray, List.set_cons_zero, List.set_cons_succ]
        (first
          | (refine held_take (i := 1) (v := ?_) rfl (by kernel_rfl) (by kernel_rfl) (by kernel_rfl) (fun _ _ _ h => h) (Or.inl ⟨rfl, ?_⟩) (by assumption) ?_; rotate_left; (intro X hSw; (try dsimp only at hSw); (go_simp <;> with_reducible rfl)))
          | (refine held_take (i := 1) (v := undef) rfl (by kernel_rfl) (by kernel_rfl) (by kernel_rfl) (fun _ _ _ h => h) (Or.inr ⟨rfl, rfl⟩) (by assumption) ?_)); simp only [Act.put, List.setIfInBounds_toArray, List.set_cons_zero, List.set_cons_succ]
        (first
          | (refine held_take (i := 2) (v := ?_) rfl (by kernel_rfl) (by kernel_rfl) (by kernel_rfl) (fun _ _ _ h => h) (Or.inl ⟨rfl, ?_⟩) (by assumption) ?_; rotate_left; (intro X hSw; (try dsimp only at hSw); (go_simp <;> with_reducible rfl)))
          | (refine held_take (i := 2) (v := undef) rfl (by kernel_rfl) (by kernel_rfl) (by kernel_rfl) (fun _ _ _ h => h) (Or.inr ⟨rfl, rfl⟩) (by assumption) ?_)); simp only [Act.put, List.setIfInBounds_toArray, List.set_cons_zero, List.set_cons_succ]
        (first
          | (refine held_take (i := 3) (v := ?_) rfl (by kernel_rfl) (by kernel_rfl) (by kernel_rfl) (fun _ _ _ h => h) (Or.inl ⟨rfl, ?_⟩) (by assumption) ?_; rotate_left; (intro X hSw; (try dsimp only at hSw); (go_simp <;> with_reducible rfl)))
          | (refine held_take (i := 3) (v := undef) rfl (by kernel_rfl) (by kernel_rfl) (by kernel_rfl) (fun _ _ _ h => h) (Or.inr ⟨rfl, rfl⟩) (by assumption) ?_)); simp only [Act.put, List.setIfInBounds_toArray, List.set_cons_zero, List.set_cons_succ]
        (first
          | (refine held_take (i := 4) (v := ?_) rfl (by kernel_rfl) (by kernel_rfl) (by kernel_rfl) (fun _ _ _ h => h) (Or.inl ⟨rfl, ?_⟩) (by assumption) ?_; rotate_left; (intro X hSw; (try dsimp only at hSw); (go_simp <;> with_reducible rfl)))
          | (refine held_take (i := 4) (v := undef) rfl (by kernel_rfl) (by kernel_rfl) (by kernel_rfl) (fun _ _ _ h => h) (Or.inr ⟨rfl, rfl⟩) (by assumption) ?_)); simp only [Act.put, List.setIfInBounds_toArray, List.set_cons_zero, List.set_cons_succ]
        (first
          | (refine held_take (i := 5) (v := ?_) rfl (by kernel_rfl) (by kernel_rfl) (by kernel_rfl) (fun _ _ _ h => h) (Or.inl ⟨rfl, ?_⟩) (by assumption) ?_; rotate_left; (intro X hSw; (try dsimp only at hSw); (go_simp <;> with_reducible rfl)))
          | (refine held_take (i := 5) (v := undef) rfl (by kernel_rfl) (by kernel_rfl) (by kernel_rfl) (fun _ _ _ h => h) (Or.inr ⟨rfl, rfl⟩) (by assumption) ?_)); simp only [Act.put, List.setIfInBounds_toArray, List.set_cons_zero, List.set_cons_succ]
        (first
          | (refine held_take (i := 6) (v := ?_) rfl (by kernel_rfl) (by kernel_rfl) (by kernel_rfl) (fun _ _ _ h => h) (Or.inl ⟨rfl, ?_⟩) (by assumption) ?_; rotate_left; (intro X hSw; (try dsimp only at hSw); (go_simp <;> with_reducible rfl)))
          | (refine held_take (i := 6) (v := undef) rfl (by kernel_rfl) (by kernel_rfl) (by kernel_rfl) (fun _ _ _ h => h) (Or.inr ⟨rfl, rfl⟩) (by assumption) ?_)); simp only [Act.put, List.setIfInBounds_toArray, List.set_cons_zero, List.set_cons_succ]
        (first
          | (refine held_take (i := 7) (v := ?_) rfl (by kernel_rfl) (by kernel_rfl) (by kernel_rfl) (fun _ _ _ h => h) (Or.inl ⟨rfl, ?_⟩) (by assumption) ?_; rotate_left; (intro X hSw; (try dsimp only at hSw); (go_simp <;> with_reducible rfl)))
          | (refine held_take (i := 7) (v := undef) rfl (by kernel_rfl) (by kernel_rfl) (by kernel_rfl) (fun _ _ _ h => h) (Or.inr ⟨rfl, rfl⟩) (by assumption) ?_)); simp only [Act.put, List.setIfInBounds_toArray, List.set_cons_zero, List.set_cons_succ]
        (first
          | (refine held_take (i := 9) (v := ?_) rfl (by kernel_rfl) (by kernel_rfl) (by kernel_rfl) (fun _ _ _ h => h) (Or.inl ⟨rfl, ?_⟩) (by assumption) ?_; rotate_left; (intro X hSw; (try dsimp only at hSw); (go_simp <;> with_reducible rfl)))
          | (refine held_take (i := 9) (v := undef) rfl (by kernel_rfl) (by kernel_rfl) (by kernel_rfl) (fun _ _ _ h => h) (Or.inr ⟨rfl, rfl⟩) (by assumption) ?_)); simp only [Act.put, List.setIfInBounds_toArray, List.set_cons_zero, List.set_cons_succ]
        (first
          | (refine held_take (i := 12) (v := ?_) rfl (by kernel_rfl) (by kernel_rfl) (by kernel_rfl) (fun _ _ _ h => h) (Or.inl ⟨rfl, ?_⟩) (by assumption) ?_; rotate_left; (intro X hSw; (try dsimp only at hSw); (go_simp <;> with_reducible rfl)))
          | (refine held_take (i := 12) (v := undef) rfl (by kernel_rfl) (by kernel_rfl) (by kernel_rfl) (fun _ _ _ h => h) (Or.inr ⟨rfl, rfl⟩) (by assumption) ?_)); simp only [Act.put, List.setIfInBounds_toArray, List.set_cons_zero, List.set_cons_succ]
        (first
          | (refine held_take (i := 15) (v := ?_) rfl (by kernel_rfl) (by kernel_rfl) (by kernel_rfl) (fun _ _ _ h => h) (Or.inl ⟨rfl, ?_⟩) (by assumption) ?_; rotate_left; (intro X hSw; (try dsimp only at hSw); (go_simp <;> with_reducible rfl)))
          | (refine held_take (i := 15) (v := undef) rfl (by kernel_rfl) (by kernel_rfl) (by kernel_rfl) (fun _ _ _ h => h) (Or.inr ⟨rfl, rfl⟩) (by assumption) ?_)); simp only [Act.put, List.setIfInBounds_toArray, List.set_cons_zero, List.set_cons_succ]
        refine wpAnyH_ready (rs := [8, 10]) (by kernel_rfl) (by simp) ?_
        refine AllReadyH.cons rfl (fun K hK => ?_) (AllReadyH.cons rfl (fun K hK => ?_) AllReadyH.nil)
        · go_simp
          refine hK.out _ _ ?_ (fun hHeld => ?_)
          · exact hHeld
          clear hK K p1
          refine wpAnyH_ready (rs := [10]) (by kernel_rfl) (by simp) ?_
          refine AllReadyH.cons rfl (fun K hK => ?_) AllReadyH.nil
          go_simp
          have HP := Lib.hid (pick_any B g (N + 30001 + 1 + 1) 9 v0 HC0.out.rd (by omega) (by omega) (by omega))
          go_wp2_with (go_at_call 37; refine HP.out.mono ?_; rintro e v1 ⟨u0, rfl, hu0, hu0', hrd, hg⟩)
          clear HP
          have HC1 := Lib.hid (HC0.out.touch hg hrd)
          have o1 := (HC1.out.o.cell 1).trans rfl
          simp only [List.getElem?_cons_zero, List.getElem?_cons_succ] at o1
          have hx0 := IntWalk.i64_in (u0 - 2) (by omega)
          clear hrd hg HC0 hHeld
          refine hK.out _ _ ?_ (fun hHeld => ?_)
          · exact o1
          clear hK K o1
          (first
            | (refine held_take (i := 11) (v := ?_) rfl (by kernel_rfl) (by kernel_rfl) (by kernel_rfl) (fun _ _ _ h => h) (Or.inl ⟨rfl, ?_⟩) (by assumption) ?_; rotate_left; (intro X hSw; (try dsimp only at hSw); (go_simp <;> with_reducible rfl)))
            | (refine held_take (i := 11) (v := undef) rfl (by kernel_rfl) (by kernel_rfl) (by kernel_rfl) (fun _ _ _ h => h) (Or.inr ⟨rfl, rfl⟩) (by assumption) ?_)); simp only [Act.put, List.setIfInBounds_toArray, List.set_cons_zero, List.set_cons_succ]
          refine wpAnyH_ready (rs := [13]) (by kernel_rfl) (by simp) ?_
          refine AllReadyH.cons rfl (fun K hK => ?_) AllReadyH.nil
          go_simp
          have HP := Lib.hid (pick_any B g (N + 30001 + 1 + 1 + 1) 3 v1 HC1.out.rd (by omega) (by omega) (by omega))
          go_wp2_with (go_at_call 37; refine HP.out.mono ?_; rintro e v2 ⟨u1, rfl, hu1, hu1', hrd, hg⟩)
          clear HP
          have HC2 := Lib.hid (HC1.out.touch hg hrd)
          have o1 := (HC2.out.o.cell 1).trans rfl
          simp only [List.getElem?_cons_zero, List.getElem?_cons_succ] at o1
          have hx1 := IntWalk.i64_in (u1 * 90) (by omega)
          clear hrd hg HC1 hHeld
          refine hK.out _ _ ?_ (fun hHeld => ?_)
          · exact o1
          clear hK K o1
          (first
            | (refine held_take (i := 14) (v := ?_) rfl (by kernel_rfl) (by kernel_rfl) (by kernel_rfl) (fun _ _ _ h => h) (Or.inl ⟨rfl, ?_⟩) (by assumption) ?_; rotate_left; (intro X hSw; (try dsimp only at hSw); (go_simp <;> with_reducible rfl)))
            | (refine held_take (i := 14) (v := undef) rfl (by kernel_rfl) (by kernel_rfl) (by kernel_rfl) (fun _ _ _ h => h) (Or.inr ⟨rfl, rfl⟩) (by assumption) ?_)); simp only [Act.put, List.setIfInBounds_toArray, List.set_cons_zero, List.set_cons_succ]
          refine wpAnyH_ready (rs := [16]) (by kernel_rfl) (by simp) ?_
          refine AllReadyH.cons rfl (fun K hK => ?_) AllReadyH.nil
          go_simp
          have HP := Lib.hid (pick_any B g (N + 30001 + 1 + 1 + 1 + 1) 3 v2 HC2.out.rd (by omega) (by omega) (by omega))
          go_wp2_with (go_at_call 37; refine HP.out.mono ?_; rintro e v3 ⟨u2, rfl, hu2, hu2', hrd, hg⟩)
          clear HP
          have HC3 := Lib.hid (HC2.out.touch hg hrd)
          have o1 := (HC3.out.o.cell 1).trans rfl
          simp only [List.getElem?_cons_zero, List.getElem?_cons_succ] at o1
          have hx2 := IntWalk.i64_in (u2 * 90) (by omega)
          clear hrd hg HC2 hHeld
          refine hK.out _ _ ?_ (fun hHeld => ?_)
          · exact o1
          clear hK K o1
          (first
            | (refine held_take (i := 17) (v := ?_) rfl (by kernel_rfl) (by kernel_rfl) (by kernel_rfl) (fun _ _ _ h => h) (Or.inl ⟨rfl, ?_⟩) (by assumption) ?_; rotate_left; (intro X hSw; (try dsimp only at hSw); (go_simp <;> with_reducible rfl)))
            | (refine held_take (i := 17) (v := undef) rfl (by kernel_rfl) (by kernel_rfl) (by kernel_rfl) (fun _ _ _ h => h) (Or.inr ⟨rfl, rfl⟩) (by assumption) ?_)); simp only [Act.put, List.setIfInBounds_toArray, List.set_cons_zero, List.set_cons_succ]
          (first
            | (refine held_take (i := 18) (v := ?_) rfl (by kernel_rfl) (by kernel_rfl) (by kernel_rfl) (fun _ _ _ h => h) (Or.inl ⟨rfl, ?_⟩) (by assumption) ?_; rotate_left; (intro X hSw; (try dsimp only at hSw); (go_simp <;> with_reducible rfl)))
            | (refine held_take (i := 18) (v := undef) rfl (by kernel_rfl) (by kernel_rfl) (by kernel_rfl) (fun _ _ _ h => h) (Or.inr ⟨rfl, rfl⟩) (by assumption) ?_)); simp only [Act.put, List.setIfInBounds_toArray, List.set_cons_zero, List.set_cons_succ]
          refine wpAnyH_ready (rs := [19]) (by kernel_rfl) (by simp) ?_
          refine AllReadyH.cons rfl (fun K hK => ?_) AllReadyH.nil
          have HBX := Lib.hid (below_box (w := v3) (.cells #[.int .i64 (u0 - 2), .int .i64 (u1 * 90), .int .i64 (u2 * 90)] 49))
          have HC4 := Lib.hid (HC3.out.keep HBX.out)
          have OS := Lib.hid (Own.new v3 49 #[.int .i64 (u0 - 2), .int .i64 (u1 * 90), .int .i64 (u2 * 90)])
          have hvz := HC3.out.fr.size
          have o1 := cell_keep HBX.out hHeld
          clear HC3 HBX
          go_simp
          generalize hob : v3.heap.size = ob at OS ⊢
          generalize v3.alloc (.cells #[.int .i64 (u0 - 2), .int .i64 (u1 * 90), .int .i64 (u2 * 90)] 49) = v4 at *
          clear hHeld
          refine hK.out _ _ ?_ (fun hHeld => ?_)
          · exact o1
          clear hK K o1
          refine wpAnyH_ready (rs := [20]) (by kernel_rfl) (by simp) ?_
          refine AllReadyH.cons rfl (fun K hK => ?_) AllReadyH.nil
          have hd9 := HC4.out.p.d k hk
          have hbs : w.heap.size + 1 ≤ v4.heap.size := by have := HC4.out.p.o.lt lb rfl; omega
          have hbl := HL9.out _ (List.getElem_mem hk)
          refine step_own_at v4 rfl _ _ 44 rfl (w.heap.size + 1) 49 i0 (.agg #[.int .i64 0, .int .i64 0, .int .i64 0]) 3 24 Try.underlying44 HI.out.1 HI.out.2.1 HI.out.2.2.1 HI.out.2.2.2 rfl (by decide) _ _ _ rfl hd9 ⟨ob, 0, none⟩ 1 1 [.int .i64 (u0 - 2), .int .i64 (u1 * 90), .int .i64 (u2 * 90)] rfl rfl OS.out.row.news (fun v hv => by simp at hv; rcases hv with rfl | rfl | rfl <;> rfl) (by unfold maxLen; omega) (by omega) hbs ?_
          intro vv X10 hown10 hgrow _
          obtain ⟨g8, k8, rfl, hg8, hg9⟩ := own_some hown10 (by omega)
          obtain ⟨x', hdc⟩ := HC4.out.p.dcApp' hk (by omega) HL9.out ⟨u0 - 2, u1 * 90, u2 * 90⟩ hown10 hgrow
          obtain ⟨o10, HO6', HR6', HRD6', HFR6', ho10⟩ := HC4.out.app (u := .slice (some ⟨g8, 0, none⟩) (xs[k].p.body.length + 1) k8) hk hgrow
          have HDC := Lib.hid hdc
          have HO6 := Lib.hid HO6'
          have HR6 := Lib.hid HR6'
          have HRD6 := Lib.hid HRD6'
          have HFR6 := Lib.hid HFR6'
          have o1 := (o10.cell 1).trans rfl
          simp only [List.getElem?_cons_zero, List.getElem?_cons_succ] at o1
          have p10 := own_cellN ho10 _ _ HQB.out
          have pf10 : X10.frozen? ⟨lb, k * 2 + 1, none⟩ = false := own_frozen ho10 _
          have hlb10 := (ho10.lt lb rfl).2
          clear hown10 hgrow hdc HO6' HR6' HRD6' HFR6' hd9 ho10 hHeld HC4 OS
          refine hK.out _ _ ?_ (fun hHeld => ?_)
          · exact o1
          clear hK K o1
          simp only [Act.put, List.setIfInBounds_toArray, List.set_cons_zero, List.set_cons_succ]
          (first
            | (refine held_take (i := 21) (v := ?_) rfl (by kernel_rfl) (by kernel_rfl) (by kernel_rfl) (fun _ _ _ h => h) (Or.inl ⟨rfl, ?_⟩) (by assumption) ?_; rotate_left; (intro X hSw; (try dsimp only at hSw); (go_simp <;> with_reducible rfl)))
            | (refine held_take (i := 21) (v := undef) rfl (by kernel_rfl) (by kernel_rfl) (by kernel_rfl) (fun _ _ _ h => h) (Or.inr ⟨rfl, rfl⟩) (by assumption) ?_)); simp only [Act.put, List.setIfInBounds_toArray, List.set_cons_zero, List.set_cons_succ]
          (first
            | (refine held_take (i := 22) (v := ?_) rfl (by kernel_rfl) (by kernel_rfl) (by kernel_rfl) (fun _ _ _ h => h) (Or.inl ⟨rfl, ?_⟩) (by assumption) ?_; rotate_left; (intro X hSw; (try dsimp only at hSw); (go_simp <;> with_reducible rfl)))
            | (refine held_take (i := 22) (v := undef) rfl (by kernel_rfl) (by kernel_rfl) (by kernel_rfl) (fun _ _ _ h => h) (Or.inr ⟨rfl, rfl⟩) (by assumption) ?_)); simp only [Act.put, List.setIfInBounds_toArray, List.set_cons_zero, List.set_cons_succ]
          refine wpAnyH_ready (rs := [23]) (by kernel_rfl) (by simp) ?_
          refine AllReadyH.cons rfl (fun K hK => ?_) AllReadyH.nil
          go_simp
          refine hK.out _ _ ?_ (fun hHeld => ?_)
          · exact (HO6.out.cell 1).trans rfl
          clear hK K
          refine wpAnyH_done (by kernel_rfl) ?_ _
          have o0 := (HO6.out.cell 0).trans rfl
          have o1 := (HO6.out.cell 1).trans rfl
          have r0 := (HR6.out.cell 0).trans rfl
          have r1 := (HR6.out.cell 1).trans rfl
          have f0 := HR6.out.frozen 0
          have f1 := HR6.out.frozen 1
          have lt5 := HR6.out.lt
          have OF0 := HR6.out.set_ 0 (.int .i64 hd)
          have OF1 := OF0.set_ 1 (.slice (some ⟨lb, 0, none⟩) xs.length cap)
          have z0 := (OF0.cell 0).trans rfl
          have z1 := (OF1.cell 1).trans rfl
          simp only [List.set_cons_zero, List.set_cons_succ, List.getElem?_cons_zero, List.getElem?_cons_succ] at o0 o1 r0 r1 z0 z1
          have FIN := Lib.hid (by have h := done_box (hd := hd) HR6.out HRD6.out HFR6.out hBB HDC.out; rw [List.length_set] at h; exact h)
          clear OF0 OF1
          go_wp2
          refine bodyPost_ret (v := .agg #[.int .i64 hd, .slice (some ⟨lb, 0, none⟩) xs.length cap]) (by simp [results, Try.results15, go_sem, z0, z1]) rfl ?_
          exact FIN.out.mono (by omega)
        · go_simp
          have HP := Lib.hid (pick_any B g (N + 30001 + 1 + 1) 9 v0 HC0.out.rd (by omega) (by omega) (by omega))
          go_wp2_with (go_at_call 37; refine HP.out.mono ?_; rintro e v1 ⟨u0, rfl, hu0, hu0', hrd, hg⟩)
          clear HP
          have HC1 := Lib.hid (HC0.out.touch hg hrd)
          have o1 := (HC1.out.o.cell 1).trans rfl
          simp only [List.getElem?_cons_zero, List.getElem?_cons_succ] at o1
          replace p1 : v1.cell? ⟨lb, k * 2 + 1, none⟩ = some (.slice xs[k].K xs[k].p.body.length xs[k].kc) := own_cellN HC1.out.p.o _ _ HQB.out
          have hx0 := IntWalk.i64_in (u0 - 2) (by omega)
          clear hrd hg HC0 hHeld
          refine hK.out _ _ ?_ (fun hHeld => ?_)
          · exact o1
          clear hK K o1
          (first
            | (refine held_take (i := 11) (v := ?_) rfl (by kernel_rfl) (by kernel_rfl) (by kernel_rfl) (fun _ _ _ h => h) (Or.inl ⟨rfl, ?_⟩) (by assumption) ?_; rotate_left; (intro X hSw; (try dsimp only at hSw); (go_simp <;> with_reducible rfl)))
            | (refine held_take (i := 11) (v := undef) rfl (by kernel_rfl) (by kernel_rfl) (by kernel_rfl) (fun _ _ _ h => h) (Or.inr ⟨rfl, rfl⟩) (by assumption) ?_)); simp only [Act.put, List.setIfInBounds_toArray, List.set_cons_zero, List.set_cons_succ]
          refine wpAnyH_ready (rs := [8, 13]) (by kernel_rfl) (by simp) ?_
          refine AllReadyH.cons rfl (fun K hK => ?_) (AllReadyH.cons rfl (fun K hK => ?_) AllReadyH.nil)
          · go_simp
            refine hK.out _ _ ?_ (fun hHeld => ?_)
            · exact hHeld
            clear hK K p1
            refine wpAnyH_ready (rs := [13]) (by kernel_rfl) (by simp) ?_
            refine AllReadyH.cons rfl (fun K hK => ?_) AllReadyH.nil
            go_simp
            have HP := Lib.hid (pick_any B g (N + 30001 + 1 + 1 + 1) 3 v1 HC1.out.rd (by omega) (by omega) (by omega))
            go_wp2_with (go_at_call 37; refine HP.out.mono ?_; rintro e v2 ⟨u1, rfl, hu1, hu1', hrd, hg⟩)
            clear HP
            have HC2 := Lib.hid (HC1.out.touch hg hrd)
            have o1 := (HC2.out.o.cell 1).trans rfl
            simp only [List.getElem?_cons_zero, List.getElem?_cons_succ] at o1
            have hx1 := IntWalk.i64_in (u1 * 90) (by omega)
            clear hrd hg HC1 hHeld
            refine hK.out _ _ ?_ (fun hHeld => ?_)
            · exact o1
            clear hK K o1
            (first
              | (refine held_take (i := 14) (v := ?_) rfl (by kernel_rfl) (by kernel_rfl) (by kernel_rfl) (fun _ _ _ h => h) (Or.inl ⟨rfl, ?_⟩) (by assumption) ?_; rotate_left; (intro X hSw; (try dsimp only at hSw); (go_simp <;> with_reducible rfl)))
              | (refine held_take (i := 14) (v := undef) rfl (by kernel_rfl) (by kernel_rfl) (by kernel_rfl) (fun _ _ _ h => h) (Or.inr ⟨rfl, rfl⟩) (by assumption) ?_)); simp only [Act.put, List.setIfInBounds_toArray, List.set_cons_zero, List.set_cons_succ]
            refine wpAnyH_ready (rs := [16]) (by kernel_rfl) (by simp) ?_
            refine AllReadyH.cons rfl (fun K hK => ?_) AllReadyH.nil
            go_simp
            have HP := Lib.hid (pick_any B g (N + 30001 + 1 + 1 + 1 + 1) 3 v2 HC2.out.rd (by omega) (by omega) (by omega))
            go_wp2_with (go_at_call 37; refine HP.out.mono ?_; rintro e v3 ⟨u2, rfl, hu2, hu2', hrd, hg⟩)
            clear HP
            have HC3 := Lib.hid (HC2.out.touch hg hrd)
            have o1 := (HC3.out.o.cell 1).trans rfl
            simp only [List.getElem?_cons_zero, List.getElem?_cons_succ] at o1
            have hx2 := IntWalk.i64_in (u2 * 90) (by omega)
            clear hrd hg HC2 hHeld
            refine hK.out _ _ ?_ (fun hHeld => ?_)
            · exact o1
            clear hK K o1
            (first
              | (refine held_take (i := 17) (v := ?_) rfl (by kernel_rfl) (by kernel_rfl) (by kernel_rfl) (fun _ _ _ h => h) (Or.inl ⟨rfl, ?_⟩) (by assumption) ?_; rotate_left; (intro X hSw; (try dsimp only at hSw); (go_simp <;> with_reducible rfl)))
              | (refine held_take (i := 17) (v := undef) rfl (by kernel_rfl) (by kernel_rfl) (by kernel_rfl) (fun _ _ _ h => h) (Or.inr ⟨rfl, rfl⟩) (by assumption) ?_)); simp only [Act.put, List.setIfInBounds_toArray, List.set_cons_zero, List.set_cons_succ]
            (first
              | (refine held_take (i := 18) (v := ?_) rfl (by kernel_rfl) (by kernel_rfl) (by kernel_rfl) (fun _ _ _ h => h) (Or.inl ⟨rfl, ?_⟩) (by assumption) ?_; rotate_left; (intro X hSw; (try dsimp only at hSw); (go_simp <;> with_reducible rfl)))
              | (refine held_take (i := 18) (v := undef) rfl (by kernel_rfl) (by kernel_rfl) (by kernel_rfl) (fun _ _ _ h => h) (Or.inr ⟨rfl, rfl⟩) (by assumption) ?_)); simp only [Act.put, List.setIfInBounds_toArray, List.set_cons_zero, List.set_cons_succ]
            refine wpAnyH_ready (rs := [19]) (by kernel_rfl) (by simp) ?_
            refine AllReadyH.cons rfl (fun K hK => ?_) AllReadyH.nil
            have HBX := Lib.hid (below_box (w := v3) (.cells #[.int .i64 (u0 - 2), .int .i64 (u1 * 90), .int .i64 (u2 * 90)] 49))
            have HC4 := Lib.hid (HC3.out.keep HBX.out)
            have OS := Lib.hid (Own.new v3 49 #[.int .i64 (u0 - 2), .int .i64 (u1 * 90), .int .i64 (u2 * 90)])
            have hvz := HC3.out.fr.size
            have o1 := cell_keep HBX.out hHeld
            clear HC3 HBX
            go_simp
            generalize hob : v3.heap.size = ob at OS ⊢
            generalize v3.alloc (.cells #[.int .i64 (u0 - 2), .int .i64 (u1 * 90), .int .i64 (u2 * 90)] 49) = v4 at *
            clear hHeld
            refine hK.out _ _ ?_ (fun hHeld => ?_)
            · exact o1
            clear hK K o1
            refine wpAnyH_ready (rs := [20]) (by kernel_rfl) (by simp) ?_
            refine AllReadyH.cons rfl (fun K hK => ?_) AllReadyH.nil
            have hd9 := HC4.out.p.d k hk
            have hbs : w.heap.size + 1 ≤ v4.heap.size := by have := HC4.out.p.o.lt lb rfl; omega
            have hbl := HL9.out _ (List.getElem_mem hk)
            refine step_own_at v4 rfl _ _ 44 rfl (w.heap.size + 1) 49 i0 (.agg #[.int .i64 0, .int .i64 0, .int .i64 0]) 3 24 Try.underlying44 HI.out.1 HI.out.2.1 HI.out.2.2.1 HI.out.2.2.2 rfl (by decide) _ _ _ rfl hd9 ⟨ob, 0, none⟩ 1 1 [.int .i64 (u0 - 2), .int .i64 (u1 * 90), .int .i64 (u2 * 90)] rfl rfl OS.out.row.news (fun v hv => by simp at hv; rcases hv with rfl | rfl | rfl <;> rfl) (by unfold maxLen; omega) (by omega) hbs ?_
            intro vv X10 hown10 hgrow _
            obtain ⟨g8, k8, rfl, hg8, hg9⟩ := own_some hown10 (by omega)
            obtain ⟨x', hdc⟩ := HC4.out.p.dcApp' hk (by omega) HL9.out ⟨u0 - 2, u1 * 90, u2 * 90⟩ hown10 hgrow
            obtain ⟨o10, HO6', HR6', HRD6', HFR6', ho10⟩ := HC4.out.app (u := .slice (some ⟨g8, 0, none⟩) (xs[k].p.body.length + 1) k8) hk hgrow
            have HDC := Lib.hid hdc
            have HO6 := Lib.hid HO6'
            have HR6 := Lib.hid HR6'
            have HRD6 := Lib.hid HRD6'
            have HFR6 := Lib.hid HFR6'
            have o1 := (o10.cell 1).trans rfl
            simp only [List.getElem?_cons_zero, List.getElem?_cons_succ] at o1
            have p10 := own_cellN ho10 _ _ HQB.out
            have pf10 : X10.frozen? ⟨lb, k * 2 + 1, none⟩ = false := own_frozen ho10 _
            have hlb10 := (ho10.lt lb rfl).2
            clear hown10 hgrow hdc HO6' HR6' HRD6' HFR6' hd9 ho10 hHeld HC4 OS
            refine hK.out _ _ ?_ (fun hHeld => ?_)
            · exact o1
            clear hK K o1
            simp only [Act.put, List.setIfInBounds_toArray, List.set_cons_zero, List.set_cons_succ]
            (first
              | (refine held_take (i := 21) (v := ?_) rfl (by kernel_rfl) (by kernel_rfl) (by kernel_rfl) (fun _ _ _ h => h) (Or.inl ⟨rfl, ?_⟩) (by assumption) ?_; rotate_left; (intro X hSw; (try dsimp only at hSw); (go_simp <;> with_reducible rfl)))
              | (refine held_take (i := 21) (v := undef) rfl (by kernel_rfl) (by kernel_rfl) (by kernel_rfl) (fun _ _ _ h => h) (Or.inr ⟨rfl, rfl⟩) (by assumption) ?_)); simp only [Act.put, List.setIfInBounds_toArray, List.set_cons_zero, List.set_cons_succ]
            (first
              | (refine held_take (i := 22) (v := ?_) rfl (by kernel_rfl) (by kernel_rfl) (by kernel_rfl) (fun _ _ _ h => h) (Or.inl ⟨rfl, ?_⟩) (by assumption) ?_; rotate_left; (intro X hSw; (try dsimp only at hSw); (go_simp <;> with_reducible rfl)))
              | (refine held_take (i := 22) (v := undef) rfl (by kernel_rfl) (by kernel_rfl) (by kernel_rfl) (fun _ _ _ h => h) (Or.inr ⟨rfl, rfl⟩) (by assumption) ?_)); simp only [Act.put, List.setIfInBounds_toArray, List.set_cons_zero, List.set_cons_succ]
            refine wpAnyH_ready (rs := [23]) (by kernel_rfl) (by simp) ?_
            refine AllReadyH.cons rfl (fun K hK => ?_) AllReadyH.nil
            go_simp
            refine hK.out _ _ ?_ (fun hHeld => ?_)
            · exact (HO6.out.cell 1).trans rfl
            clear hK K
            refine wpAnyH_done (by kernel_rfl) ?_ _
            have o0 := (HO6.out.cell 0).trans rfl
            have o1 := (HO6.out.cell 1).trans rfl
            have r0 := (HR6.out.cell 0).trans rfl
            have r1 := (HR6.out.cell 1).trans rfl
            have f0 := HR6.out.frozen 0
            have f1 := HR6.out.frozen 1
            have lt5 := HR6.out.lt
            have OF0 := HR6.out.set_ 0 (.int .i64 hd)
            have OF1 := OF0.set_ 1 (.slice (some ⟨lb, 0, none⟩) xs.length cap)
            have z0 := (OF0.cell 0).trans rfl
            have z1 := (OF1.cell 1).trans rfl
            simp only [List.set_cons_zero, List.set_cons_succ, List.getElem?_cons_zero, List.getElem?_cons_succ] at o0 o1 r0 r1 z0 z1
            have FIN := Lib.hid (by have h := done_box (hd := hd) HR6.out HRD6.out HFR6.out hBB HDC.out; rw [List.length_set] at h; exact h)
            clear OF0 OF1
            go_wp2
            refine bodyPost_ret (v := .agg #[.int .i64 hd, .slice (some ⟨lb, 0, none⟩) xs.length cap]) (by simp [results, Try.results15, go_sem, z0, z1]) rfl ?_
            exact FIN.out.mono (by omega)
          · go_simp
            have HP := Lib.hid (pick_any B g (N + 30001 + 1 + 1 + 1) 3 v1 HC1.out.rd (by omega) (by omega) (by omega))
            go_wp2_with (go_at_call 37; refine HP.out.mono ?_; rintro e v2 ⟨u1, rfl, hu1, hu1', hrd, hg⟩)
            clear HP
            have HC2 := Lib.hid (HC1.out.touch hg hrd)
            have o1 := (HC2.out.o.cell 1).trans rfl
            simp only [List.getElem?_cons_zero, List.getElem?_cons_succ] at o1
            replace p1 : v2.cell? ⟨lb, k * 2 + 1, none⟩ = some (.slice xs[k].K xs[k].p.body.length xs[k].kc) := own_cellN HC2.out.p.o _ _ HQB.out
            have hx1 := IntWalk.i64_in (u1 * 90) (by omega)
            clear hrd hg HC1 hHeld
            refine hK.out _ _ ?_ (fun hHeld => ?_)
            · exact o1
            clear hK K o1
            (first
              | (refine held_take (i := 14) (v := ?_) rfl (by kernel_rfl) (by kernel_rfl) (by kernel_rfl) (fun _ _ _ h => h) (Or.inl ⟨rfl, ?_⟩) (by assumption) ?_; rotate_left; (intro X hSw; (try dsimp only at hSw); (go_simp <;> with_reducible rfl)))
              | (refine held_take (i := 14) (v := undef) rfl (by kernel_rfl) (by kernel_rfl) (by kernel_rfl) (fun _ _ _ h => h) (Or.inr ⟨rfl, rfl⟩) (by assumption) ?_)); simp only [Act.put, List.setIfInBounds_toArray, List.set_cons_zero, List.set_cons_succ]
            refine wpAnyH_ready (rs := [8, 16]) (by kernel_rfl) (by simp) ?_
            refine AllReadyH.cons rfl (fun K hK => ?_) (AllReadyH.cons rfl (fun K hK => ?_) AllReadyH.nil)
            · go_simp
              refine hK.out _ _ ?_ (fun hHeld => ?_)
              · exact hHeld
              clear hK K p1
              refine wpAnyH_ready (rs := [16]) (by kernel_rfl) (by simp) ?_
              refine AllReadyH.cons rfl (fun K hK => ?_) AllReadyH.nil
              go_simp
              have HP := Lib.hid (pick_any B g (N + 30001 + 1 + 1 + 1 + 1) 3 v2 HC2.out.rd (by omega) (by omega) (by omega))
              go_wp2_with (go_at_call 37; refine HP.out.mono ?_; rintro e v3 ⟨u2, rfl, hu2, hu2', hrd, hg⟩)
              clear HP
              have HC3 := Lib.hid (HC2.out.touch hg hrd)
              have o1 := (HC3.out.o.cell 1).trans rfl
              simp only [List.getElem?_cons_zero, List.getElem?_cons_succ] at o1
              have hx2 := IntWalk.i64_in (u2 * 90) (by omega)
              clear hrd hg HC2 hHeld
              refine hK.out _ _ ?_ (fun hHeld => ?_)
              · exact o1
              clear hK K o1
              (first
                | (refine held_take (i := 17) (v := ?_) rfl (by kernel_rfl) (by kernel_rfl) (by kernel_rfl) (fun _ _ _ h => h) (Or.inl ⟨rfl, ?_⟩) (by assumption) ?_; rotate_left; (intro X hSw; (try dsimp only at hSw); (go_simp <;> with_reducible rfl)))
                | (refine held_take (i := 17) (v := undef) rfl (by kernel_rfl) (by kernel_rfl) (by kernel_rfl) (fun _ _ _ h => h) (Or.inr ⟨rfl, rfl⟩) (by assumption) ?_)); simp only [Act.put, List.setIfInBounds_toArray, List.set_cons_zero, List.set_cons_succ]
              (first
                | (refine held_take (i := 18) (v := ?_) rfl (by kernel_rfl) (by kernel_rfl) (by kernel_rfl) (fun _ _ _ h => h) (Or.inl ⟨rfl, ?_⟩) (by assumption) ?_; rotate_left; (intro X hSw; (try dsimp only at hSw); (go_simp <;> with_reducible rfl)))
                | (refine held_take (i := 18) (v := undef) rfl (by kernel_rfl) (by kernel_rfl) (by kernel_rfl) (fun _ _ _ h => h) (Or.inr ⟨rfl, rfl⟩) (by assumption) ?_)); simp only [Act.put, List.setIfInBounds_toArray, List.set_cons_zero, List.set_cons_succ]
              refine wpAnyH_ready (rs := [19]) (by kernel_rfl) (by simp) ?_
              refine AllReadyH.cons rfl (fun K hK => ?_) AllReadyH.nil
              have HBX := Lib.hid (below_box (w := v3) (.cells #[.int .i64 (u0 - 2), .int .i64 (u1 * 90), .int .i64 (u2 * 90)] 49))
              have HC4 := Lib.hid (HC3.out.keep HBX.out)
              have OS := Lib.hid (Own.new v3 49 #[.int .i64 (u0 - 2), .int .i64 (u1 * 90), .int .i64 (u2 * 90)])
              have hvz := HC3.out.fr.size
              have o1 := cell_keep HBX.out hHeld
              clear HC3 HBX
              go_simp
              generalize hob : v3.heap.size = ob at OS ⊢
              generalize v3.alloc (.cells #[.int .i64 (u0 - 2), .int .i64 (u1 * 90), .int .i64 (u2 * 90)] 49) = v4 at *
              clear hHeld
              refine hK.out _ _ ?_ (fun hHeld => ?_)
              · exact o1
              clear hK K o1
              refine wpAnyH_ready (rs := [20]) (by kernel_rfl) (by simp) ?_
              refine AllReadyH.cons rfl (fun K hK => ?_) AllReadyH.nil
              have hd9 := HC4.out.p.d k hk
              have hbs : w.heap.size + 1 ≤ v4.heap.size := by have := HC4.out.p.o.lt lb rfl; omega
              have hbl := HL9.out _ (List.getElem_mem hk)
              refine step_own_at v4 rfl _ _ 44 rfl (w.heap.size + 1) 49 i0 (.agg #[.int .i64 0, .int .i64 0, .int .i64 0]) 3 24 Try.underlying44 HI.out.1 HI.out.2.1 HI.out.2.2.1 HI.out.2.2.2 rfl (by decide) _ _ _ rfl hd9 ⟨ob, 0, none⟩ 1 1 [.int .i64 (u0 - 2), .int .i64 (u1 * 90), .int .i64 (u2 * 90)] rfl rfl OS.out.row.news (fun v hv => by simp at hv; rcases hv with rfl | rfl | rfl <;> rfl) (by unfold maxLen; omega) (by omega) hbs ?_
              intro vv X10 hown10 hgrow _
              obtain ⟨g8, k8, rfl, hg8, hg9⟩ := own_some hown10 (by omega)
              obtain ⟨x', hdc⟩ := HC4.out.p.dcApp' hk (by omega) HL9.out ⟨u0 - 2, u1 * 90, u2 * 90⟩ hown10 hgrow
              obtain ⟨o10, HO6', HR6', HRD6', HFR6', ho10⟩ := HC4.out.app (u := .slice (some ⟨g8, 0, none⟩) (xs[k].p.body.length + 1) k8) hk hgrow
              have HDC := Lib.hid hdc
              have HO6 := Lib.hid HO6'
              have HR6 := Lib.hid HR6'
              have HRD6 := Lib.hid HRD6'
              have HFR6 := Lib.hid HFR6'
              have o1 := (o10.cell 1).trans rfl
              simp only [List.getElem?_cons_zero, List.getElem?_cons_succ] at o1
              have p10 := own_cellN ho10 _ _ HQB.out
              have pf10 : X10.frozen? ⟨lb, k * 2 + 1, none⟩ = false := own_frozen ho10 _
              have hlb10 := (ho10.lt lb rfl).2
              clear hown10 hgrow hdc HO6' HR6' HRD6' HFR6' hd9 ho10 hHeld HC4 OS
              refine hK.out _ _ ?_ (fun hHeld => ?_)
              · exact o1
              clear hK K o1
              simp only [Act.put, List.setIfInBounds_toArray, List.set_cons_zero, List.set_cons_succ]
              (first
                | (refine held_take (i := 21) (v := ?_) rfl (by kernel_rfl) (by kernel_rfl) (by kernel_rfl) (fun _ _ _ h => h) (Or.inl ⟨rfl, ?_⟩) (by assumption) ?_; rotate_left; (intro X hSw; (try dsimp only at hSw); (go_simp <;> with_reducible rfl)))
                | (refine held_take (i := 21) (v := undef) rfl (by kernel_rfl) (by kernel_rfl) (by kernel_rfl) (fun _ _ _ h => h) (Or.inr ⟨rfl, rfl⟩) (by assumption) ?_)); simp only [Act.put, List.setIfInBounds_toArray, List.set_cons_zero, List.set_cons_succ]
              (first
                | (refine held_take (i := 22) (v := ?_) rfl (by kernel_rfl) (by kernel_rfl) (by kernel_rfl) (fun _ _ _ h => h) (Or.inl ⟨rfl, ?_⟩) (by assumption) ?_; rotate_left; (intro X hSw; (try dsimp only at hSw); (go_simp <;> with_reducible rfl)))
                | (refine held_take (i := 22) (v := undef) rfl (by kernel_rfl) (by kernel_rfl) (by kernel_rfl) (fun _ _ _ h => h) (Or.inr ⟨rfl, rfl⟩) (by assumption) ?_)); simp only [Act.put, List.setIfInBounds_toArray, List.set_cons_zero, List.set_cons_succ]
              refine wpAnyH_ready (rs := [23]) (by kernel_rfl) (by simp) ?_
              refine AllReadyH.cons rfl (fun K hK => ?_) AllReadyH.nil
              go_simp
              refine hK.out _ _ ?_ (fun hHeld => ?_)
              · exact (HO6.out.cell 1).trans rfl
              clear hK K
              refine wpAnyH_done (by kernel_rfl) ?_ _
              have o0 := (HO6.out.cell 0).trans rfl
              have o1 := (HO6.out.cell 1).trans rfl
              have r0 := (HR6.out.cell 0).trans rfl
              have r1 := (HR6.out.cell 1).trans rfl
              have f0 := HR6.out.frozen 0
              have f1 := HR6.out.frozen 1
              have lt5 := HR6.out.lt
              have OF0 := HR6.out.set_ 0 (.int .i64 hd)
              have OF1 := OF0.set_ 1 (.slice (some ⟨lb, 0, none⟩) xs.length cap)
              have z0 := (OF0.cell 0).trans rfl
              have z1 := (OF1.cell 1).trans rfl
              simp only [List.set_cons_zero, List.set_cons_succ, List.getElem?_cons_zero, List.getElem?_cons_succ] at o0 o1 r0 r1 z0 z1
              have FIN := Lib.hid (by have h := done_box (hd := hd) HR6.out HRD6.out HFR6.out hBB HDC.out; rw [List.length_set] at h; exact h)
              clear OF0 OF1
              go_wp2
              refine bodyPost_ret (v := .agg #[.int .i64 hd, .slice (some ⟨lb, 0, none⟩) xs.length cap]) (by simp [results, Try.results15, go_sem, z0, z1]) rfl ?_
              exact FIN.out.mono (by omega)
            · go_simp
              have HP := Lib.hid (pick_any B g (N + 30001 + 1 + 1 + 1 + 1) 3 v2 HC2.out.rd (by omega) (by omega) (by omega))
              go_wp2_with (go_at_call 37; refine HP.out.mono ?_; rintro e v3 ⟨u2, rfl, hu2, hu2', hrd, hg⟩)
              clear HP
              have HC3 := Lib.hid (HC2.out.touch hg hrd)
              have o1 := (HC3.out.o.cell 1).trans rfl
              simp only [List.getElem?_cons_zero, List.getElem?_cons_succ] at o1
              replace p1 : v3.cell? ⟨lb, k * 2 + 1, none⟩ = some (.slice xs[k].K xs[k].p.body.length xs[k].kc) := own_cellN HC3.out.p.o _ _ HQB.out
              have hx2 := IntWalk.i64_in (u2 * 90) (by omega)
              clear hrd hg HC2 hHeld
              refine hK.out _ _ ?_ (fun hHeld => ?_)
              · exact o1
              clear hK K o1
              (first
                | (refine held_take (i := 17) (v := ?_) rfl (by kernel_rfl) (by kernel_rfl) (by kernel_rfl) (fun _ _ _ h => h) (Or.inl ⟨rfl, ?_⟩) (by assumption) ?_; rotate_left; (intro X hSw; (try dsimp only at hSw); (go_simp <;> with_reducible rfl)))
                | (refine held_take (i := 17) (v := undef) rfl (by kernel_rfl) (by kernel_rfl) (by kernel_rfl) (fun _ _ _ h => h) (Or.inr ⟨rfl, rfl⟩) (by assumption) ?_)); simp only [Act.put, List.setIfInBounds_toArray, List.set_cons_zero, List.set_cons_succ]
              (first
                | (refine held_take (i := 18) (v := ?_) rfl (by kernel_rfl) (by kernel_rfl) (by kernel_rfl) (fun _ _ _ h => h) (Or.inl ⟨rfl, ?_⟩) (by assumption) ?_; rotate_left; (intro X hSw; (try dsimp only at hSw); (go_simp <;> with_reducible rfl)))
                | (refine held_take (i := 18) (v := undef) rfl (by kernel_rfl) (by kernel_rfl) (by kernel_rfl) (fun _ _ _ h => h) (Or.inr ⟨rfl, rfl⟩) (by assumption) ?_)); simp only [Act.put, List.setIfInBounds_toArray, List.set_cons_zero, List.set_cons_succ]
              refine wpAnyH_ready (rs := [8, 19]) (by kernel_rfl) (by simp) ?_
              refine AllReadyH.cons rfl (fun K hK => ?_) (AllReadyH.cons rfl (fun K hK => ?_) AllReadyH.nil)
              · go_simp
                refine hK.out _ _ ?_ (fun hHeld => ?_)
                · exact hHeld
                clear hK K p1
                refine wpAnyH_ready (rs := [19]) (by kernel_rfl) (by simp) ?_
                refine AllReadyH.cons rfl (fun K hK => ?_) AllReadyH.nil
                have HBX := Lib.hid (below_box (w := v3) (.cells #[.int .i64 (u0 - 2), .int .i64 (u1 * 90), .int .i64 (u2 * 90)] 49))
                have HC4 := Lib.hid (HC3.out.keep HBX.out)
                have OS := Lib.hid (Own.new v3 49 #[.int .i64 (u0 - 2), .int .i64 (u1 * 90), .int .i64 (u2 * 90)])
                have hvz := HC3.out.fr.size
                have o1 := cell_keep HBX.out hHeld
                clear HC3 HBX
                go_simp
                generalize hob : v3.heap.size = ob at OS ⊢
                generalize v3.alloc (.cells #[.int .i64 (u0 - 2), .int .i64 (u1 * 90), .int .i64 (u2 * 90)] 49) = v4 at *
                clear hHeld
                refine hK.out _ _ ?_ (fun hHeld => ?_)
                · exact o1
                clear hK K o1
                refine wpAnyH_ready (rs := [20]) (by kernel_rfl) (by simp) ?_
                refine AllReadyH.cons rfl (fun K hK => ?_) AllReadyH.nil
                have hd9 := HC4.out.p.d k hk
                have hbs : w.heap.size + 1 ≤ v4.heap.size := by have := HC4.out.p.o.lt lb rfl; omega
                have hbl := HL9.out _ (List.getElem_mem hk)
                refine step_own_at v4 rfl _ _ 44 rfl (w.heap.size + 1) 49 i0 (.agg #[.int .i64 0, .int .i64 0, .int .i64 0]) 3 24 Try.underlying44 HI.out.1 HI.out.2.1 HI.out.2.2.1 HI.out.2.2.2 rfl (by decide) _ _ _ rfl hd9 ⟨ob, 0, none⟩ 1 1 [.int .i64 (u0 - 2), .int .i64 (u1 * 90), .int .i64 (u2 * 90)] rfl rfl OS.out.row.news (fun v hv => by simp at hv; rcases hv with rfl | rfl | rfl <;> rfl) (by unfold maxLen; omega) (by omega) hbs ?_
                intro vv X10 hown10 hgrow _
                obtain ⟨g8, k8, rfl, hg8, hg9⟩ := own_some hown10 (by omega)
                obtain ⟨x', hdc⟩ := HC4.out.p.dcApp' hk (by omega) HL9.out ⟨u0 - 2, u1 * 90, u2 * 90⟩ hown10 hgrow
                obtain ⟨o10, HO6', HR6', HRD6', HFR6', ho10⟩ := HC4.out.app (u := .slice (some ⟨g8, 0, none⟩) (xs[k].p.body.length + 1) k8) hk hgrow
                have HDC := Lib.hid hdc
                have HO6 := Lib.hid HO6'
                have HR6 := Lib.hid HR6'
                have HRD6 := Lib.hid HRD6'
                have HFR6 := Lib.hid HFR6'
                have o1 := (o10.cell 1).trans rfl
                simp only [List.getElem?_cons_zero, List.getElem?_cons_succ] at o1
                have p10 := own_cellN ho10 _ _ HQB.out
                have pf10 : X10.frozen? ⟨lb, k * 2 + 1, none⟩ = false := own_frozen ho10 _
                have hlb10 := (ho10.lt lb rfl).2
                clear hown10 hgrow hdc HO6' HR6' HRD6' HFR6' hd9 ho10 hHeld HC4 OS
                refine hK.out _ _ ?_ (fun hHeld => ?_)
                · exact o1
                clear hK K o1
                simp only [Act.put, List.setIfInBounds_toArray, List.set_cons_zero, List.set_cons_succ]
                (first
                  | (refine held_take (i := 21) (v := ?_) rfl (by kernel_rfl) (by kernel_rfl) (by kernel_rfl) (fun _ _ _ h => h) (Or.inl ⟨rfl, ?_⟩) (by assumption) ?_; rotate_left; (intro X hSw; (try dsimp only at hSw); (go_simp <;> with_reducible rfl)))
                  | (refine held_take (i := 21) (v := undef) rfl (by kernel_rfl) (by kernel_rfl) (by kernel_rfl) (fun _ _ _ h => h) (Or.inr ⟨rfl, rfl⟩) (by assumption) ?_)); simp only [Act.put, List.setIfInBounds_toArray, List.set_cons_zero, List.set_cons_succ]
                (first
                  | (refine held_take (i := 22) (v := ?_) rfl (by kernel_rfl) (by kernel_rfl) (by kernel_rfl) (fun _ _ _ h => h) (Or.inl ⟨rfl, ?_⟩) (by assumption) ?_; rotate_left; (intro X hSw; (try dsimp only at hSw); (go_simp <;> with_reducible rfl)))
                  | (refine held_take (i := 22) (v := undef) rfl (by kernel_rfl) (by kernel_rfl) (by kernel_rfl) (fun _ _ _ h => h) (Or.inr ⟨rfl, rfl⟩) (by assumption) ?_)); simp only [Act.put, List.setIfInBounds_toArray, List.set_cons_zero, List.set_cons_succ]
                refine wpAnyH_ready (rs := [23]) (by kernel_rfl) (by simp) ?_
                refine AllReadyH.cons rfl (fun K hK => ?_) AllReadyH.nil
                go_simp
                refine hK.out _ _ ?_ (fun hHeld => ?_)
                · exact (HO6.out.cell 1).trans rfl
                clear hK K
                refine wpAnyH_done (by kernel_rfl) ?_ _
                have o0 := (HO6.out.cell 0).trans rfl
                have o1 := (HO6.out.cell 1).trans rfl
                have r0 := (HR6.out.cell 0).trans rfl
                have r1 := (HR6.out.cell 1).trans rfl
                have f0 := HR6.out.frozen 0
                have f1 := HR6.out.frozen 1
                have lt5 := HR6.out.lt
                have OF0 := HR6.out.set_ 0 (.int .i64 hd)
                have OF1 := OF0.set_ 1 (.slice (some ⟨lb, 0, none⟩) xs.length cap)
                have z0 := (OF0.cell 0).trans rfl
                have z1 := (OF1.cell 1).trans rfl
                simp only [List.set_cons_zero, List.set_cons_succ, List.getElem?_cons_zero, List.getElem?_cons_succ] at o0 o1 r0 r1 z0 z1
                have FIN := Lib.hid (by have h := done_box (hd := hd) HR6.out HRD6.out HFR6.out hBB HDC.out; rw [List.length_set] at h; exact h)
                clear OF0 OF1
                go_wp2
                refine bodyPost_ret (v := .agg #[.int .i64 hd, .slice (some ⟨lb, 0, none⟩) xs.length cap]) (by simp [results, Try.results15, go_sem, z0, z1]) rfl ?_
                exact FIN.out.mono (by omega)
              · have HBX := Lib.hid (below_box (w := v3) (.cells #[.int .i64 (u0 - 2), .int .i64 (u1 * 90), .int .i64 (u2 * 90)] 49))
                have HC4 := Lib.hid (HC3.out.keep HBX.out)
                have OS := Lib.hid (Own.new v3 49 #[.int .i64 (u0 - 2), .int .i64 (u1 * 90), .int .i64 (u2 * 90)])
                have hvz := HC3.out.fr.size
                have o1 := cell_keep HBX.out hHeld
                replace p1 := cell_keep HBX.out p1
                clear HC3 HBX
                go_simp
                generalize hob : v3.heap.size = ob at OS ⊢
                generalize v3.alloc (.cells #[.int .i64 (u0 - 2), .int .i64 (u1 * 90), .int .i64 (u2 * 90)] 49) = v4 at *
                clear hHeld
                refine hK.out _ _ ?_ (fun hHeld => ?_)
                · exact o1
                clear hK K o1
                refine wpAnyH_ready (rs := [8]) (by kernel_rfl) (by simp) ?_
                refine AllReadyH.cons rfl (fun K hK => ?_) AllReadyH.nil
                go_simp
                refine hK.out _ _ ?_ (fun hHeld => ?_)
                · exact hHeld
                clear hK K p1
                refine wpAnyH_ready (rs := [20]) (by kernel_rfl) (by simp) ?_
                refine AllReadyH.cons rfl (fun K hK => ?_) AllReadyH.nil
                have hd9 := HC4.out.p.d k hk
                have hbs : w.heap.size + 1 ≤ v4.heap.size := by have := HC4.out.p.o.lt lb rfl; omega
                have hbl := HL9.out _ (List.getElem_mem hk)
                refine step_own_at v4 rfl _ _ 44 rfl (w.heap.size + 1) 49 i0 (.agg #[.int .i64 0, .int .i64 0, .int .i64 0]) 3 24 Try.underlying44 HI.out.1 HI.out.2.1 HI.out.2.2.1 HI.out.2.2.2 rfl (by decide) _ _ _ rfl hd9 ⟨ob, 0, none⟩ 1 1 [.int .i64 (u0 - 2), .int .i64 (u1 * 90), .int .i64 (u2 * 90)] rfl rfl OS.out.row.news (fun v hv => by simp at hv; rcases hv with rfl | rfl | rfl <;> rfl) (by unfold maxLen; omega) (by omega) hbs ?_
                intro vv X10 hown10 hgrow _
                obtain ⟨g8, k8, rfl, hg8, hg9⟩ := own_some hown10 (by omega)
                obtain ⟨x', hdc⟩ := HC4.out.p.dcApp' hk (by omega) HL9.out ⟨u0 - 2, u1 * 90, u2 * 90⟩ hown10 hgrow
                obtain ⟨o10, HO6', HR6', HRD6', HFR6', ho10⟩ := HC4.out.app (u := .slice (some ⟨g8, 0, none⟩) (xs[k].p.body.length + 1) k8) hk hgrow
                have HDC := Lib.hid hdc
                have HO6 := Lib.hid HO6'
                have HR6 := Lib.hid HR6'
                have HRD6 := Lib.hid HRD6'
                have HFR6 := Lib.hid HFR6'
                have o1 := (o10.cell 1).trans rfl
                simp only [List.getElem?_cons_zero, List.getElem?_cons_succ] at o1
                have p10 := own_cellN ho10 _ _ HQB.out
                have pf10 : X10.frozen? ⟨lb, k * 2 + 1, none⟩ = false := own_frozen ho10 _
                have hlb10 := (ho10.lt lb rfl).2
                clear hown10 hgrow hdc HO6' HR6' HRD6' HFR6' hd9 ho10 hHeld HC4 OS
                refine hK.out _ _ ?_ (fun hHeld => ?_)
                · exact o1
                clear hK K o1
                simp only [Act.put, List.setIfInBounds_toArray, List.set_cons_zero, List.set_cons_succ]
                (first
                  | (refine held_take (i := 21) (v := ?_) rfl (by kernel_rfl) (by kernel_rfl) (by kernel_rfl) (fun _ _ _ h => h) (Or.inl ⟨rfl, ?_⟩) (by assumption) ?_; rotate_left; (intro X hSw; (try dsimp only at hSw); (go_simp <;> with_reducible rfl)))
                  | (refine held_take (i := 21) (v := undef) rfl (by kernel_rfl) (by kernel_rfl) (by kernel_rfl) (fun _ _ _ h => h) (Or.inr ⟨rfl, rfl⟩) (by assumption) ?_)); simp only [Act.put, List.setIfInBounds_toArray, List.set_cons_zero, List.set_cons_succ]
                (first
                  | (refine held_take (i := 22) (v := ?_) rfl (by kernel_rfl) (by kernel_rfl) (by kernel_rfl) (fun _ _ _ h => h) (Or.inl ⟨rfl, ?_⟩) (by assumption) ?_; rotate_left; (intro X hSw; (try dsimp only at hSw); (go_simp <;> with_reducible rfl)))
                  | (refine held_take (i := 22) (v := undef) rfl (by kernel_rfl) (by kernel_rfl) (by kernel_rfl) (fun _ _ _ h => h) (Or.inr ⟨rfl, rfl⟩) (by assumption) ?_)); simp only [Act.put, List.setIfInBounds_toArray, List.set_cons_zero, List.set_cons_succ]
                refine wpAnyH_ready (rs := [23]) (by kernel_rfl) (by simp) ?_
                refine AllReadyH.cons rfl (fun K hK => ?_) AllReadyH.nil
                go_simp
                refine hK.out _ _ ?_ (fun hHeld => ?_)
                · exact (HO6.out.cell 1).trans rfl
                clear hK K
                refine wpAnyH_done (by kernel_rfl) ?_ _
                have o0 := (HO6.out.cell 0).trans rfl
                have o1 := (HO6.out.cell 1).trans rfl
                have r0 := (HR6.out.cell 0).trans rfl
                have r1 := (HR6.out.cell 1).trans rfl
                have f0 := HR6.out.frozen 0
                have f1 := HR6.out.frozen 1
                have lt5 := HR6.out.lt
                have OF0 := HR6.out.set_ 0 (.int .i64 hd)
                have OF1 := OF0.set_ 1 (.slice (some ⟨lb, 0, none⟩) xs.length cap)
                have z0 := (OF0.cell 0).trans rfl
                have z1 := (OF1.cell 1).trans rfl
                simp only [List.set_cons_zero, List.set_cons_succ, List.getElem?_cons_zero, List.getElem?_cons_succ] at o0 o1 r0 r1 z0 z1
                have FIN := Lib.hid (by have h := done_box (hd := hd) HR6.out HRD6.out HFR6.out hBB HDC.out; rw [List.length_set] at h; exact h)
                clear OF0 OF1
                go_wp2
                refine bodyPost_ret (v := .agg #[.int .i64 hd, .slice (some ⟨lb, 0, none⟩) xs.length cap]) (by simp [results, Try.results15, go_sem, z0, z1]) rfl ?_
                exact FIN.out.mono (by omega)
      · obtain ⟨qh, qb⟩ := pvCells_get xs k hk
        have p1 := own_cellN HCD5.out.p.o _ _ qb
        have pf1 : w5.frozen? ⟨lb, k * 2 + 1, none⟩ = false := own_frozen HCD5.out.p.o _
        unfold Pv.sl at p1
        have hne : lb ≠ cb := fun e => own_ne_own HCD5.out.p.o HCD5.out.o (by decide) lb rfl e
        have hne2 : lb ≠ w.heap.size := by omega
        have hgl := HCD5.out.g_lt
        have HDC := Lib.hid (HCD5.out.p.dcBody hk (by omega) HL9.out [] none 0 (by simp) (World.ownsRow_nil _ _ _ _))
        have HO6 := Lib.hid (HCD5.out.o.far (p := ⟨lb, k * 2 + 1, none⟩) (fun e => hne e.symm) (.slice none 0 0))
        have HR6 := Lib.hid (HCD5.out.r.far (p := ⟨lb, k * 2 + 1, none⟩) (fun e => hne2 e.symm) (.slice none 0 0))
        have HRD6 := Lib.hid (HCD5.out.rd.setCell (p := ⟨lb, k * 2 + 1, none⟩) (by have := HCD5.out.hB; show B ≤ lb; omega) (.slice none 0 0))
        have HFR6 : Hid (w.grownBy (w5.setCell ⟨lb, k * 2 + 1, none⟩ (.slice none 0 0)) (some g)) := ⟨HCD5.out.fr.os, HCD5.out.fr.tape, HCD5.out.fr.output, Nat.le_trans HCD5.out.fr.size (by simp), fun z hz hn => (Below.heap_setCell _ _ _ z (by show z ≠ lb; omega)).trans (HCD5.out.fr.block z hz hn)⟩
        clear qh qb
        have o0 := (HO6.out.cell 0).trans rfl
        have o1 := (HO6.out.cell 1).trans rfl
        have r0 := (HR6.out.cell 0).trans rfl
        have r1 := (HR6.out.cell 1).trans rfl
        have f0 := HR6.out.frozen 0
        have f1 := HR6.out.frozen 1
        have lt5 := HR6.out.lt
        have OF0 := HR6.out.set_ 0 (.int .i64 hd)
        have OF1 := OF0.set_ 1 (.slice (some ⟨lb, 0, none⟩) xs.length cap)
        have z0 := (OF0.cell 0).trans rfl
        have z1 := (OF1.cell 1).trans rfl
        simp only [List.set_cons_zero, List.set_cons_succ, List.getElem?_cons_zero, List.getElem?_cons_succ] at o0 o1 r0 r1 z0 z1
        have FIN := Lib.hid (by have h := done_box (hd := hd) HR6.out HRD6.out HFR6.out HCD5.out.hB HDC.out; rw [List.length_set] at h; exact h)
        clear OF0 OF1
        go_wp2
        refine bodyPost_ret (v := .agg #[.int .i64 hd, .slice (some ⟨lb, 0, none⟩) xs.length cap]) (by simp [results, Try.results15, go_sem, z0, z1]) rfl ?_
        exact FIN.out.mono (by omega)
      · obtain ⟨qh, qb⟩ := pvCells_get xs 0 hxp
        have p1 := own_cellN HCD5.out.p.o _ _ qb
        unfold Pv.sl at p1
        rw [Nat.zero_mul, Nat.zero_add] at p1
        have HB6 := Lib.hid (below_box (w := w5) (.cells #[.int .i64 0, .int .i64 0, .int .i64 0, .int .i64 0, .int .i64 0, .int .i64 0] 49))
        have HCD6 := Lib.hid (HCD5.out.keep HB6.out)
        have HNW := Lib.hid (own_new w5 49 3 (w.heap.size + 1) 2 (symCells [⟨0, 0, 0⟩, ⟨0, 0, 0⟩]) (by have := HCD5.out.fr.size; have := HCD5.out.o.lt; omega) rfl (by decide))
        have o1' := cell_keep HB6.out o1
        have p1' := cell_keep HB6.out p1
        have pf1 : (w5.alloc (.cells #[.int .i64 0, .int .i64 0, .int .i64 0, .int .i64 0, .int .i64 0, .int .i64 0] 49)).frozen? ⟨lb, 1, none⟩ = false := own_frozen HCD6.out.p.o _
        have hne : lb ≠ cb := fun e => own_ne_own HCD5.out.p.o HCD5.out.o (by decide) lb rfl e
        have hne2 : lb ≠ w.heap.size := by omega
        have hgl := HCD5.out.g_lt
        have HDC := Lib.hid (HCD6.out.p.dcBody hxp (by omega) HL9.out [⟨0, 0, 0⟩, ⟨0, 0, 0⟩] (some ⟨w5.heap.size, 0, none⟩) 2 (by simp) HNW.out)
        have HO6 := Lib.hid (HCD6.out.o.far (p := ⟨lb, 1, none⟩) (fun e => hne e.symm) (.slice (some ⟨w5.heap.size, 0, none⟩) 2 2))
        have HR6 := Lib.hid (HCD6.out.r.far (p := ⟨lb, 1, none⟩) (fun e => hne2 e.symm) (.slice (some ⟨w5.heap.size, 0, none⟩) 2 2))
        have HRD6 := Lib.hid (HCD6.out.rd.setCell (p := ⟨lb, 1, none⟩) (by have := HCD5.out.hB; show B ≤ lb; omega) (.slice (some ⟨w5.heap.size, 0, none⟩) 2 2))
        have HFR6 : Hid (w.grownBy ((w5.alloc (.cells #[.int .i64 0, .int .i64 0, .int .i64 0, .int .i64 0, .int .i64 0, .int .i64 0] 49)).setCell ⟨lb, 1, none⟩ (.slice (some ⟨w5.heap.size, 0, none⟩) 2 2)) (some g)) := ⟨HCD6.out.fr.os, HCD6.out.fr.tape, HCD6.out.fr.output, Nat.le_trans HCD6.out.fr.size (by simp), fun z hz hn => (Below.heap_setCell _ _ _ z (by show z ≠ lb; omega)).trans (HCD6.out.fr.block z hz hn)⟩
        rw [World.setCell_alloc_past (w := w5) _ _ _ _ hlb2] at HDC HO6 HR6 HRD6 HFR6
        clear qh qb
        have o0 := (HO6.out.cell 0).trans rfl
        have o1 := (HO6.out.cell 1).trans rfl
        have r0 := (HR6.out.cell 0).trans rfl
        have r1 := (HR6.out.cell 1).trans rfl
        have f0 := HR6.out.frozen 0
        have f1 := HR6.out.frozen 1
        have lt5 := HR6.out.lt
        have OF0 := HR6.out.set_ 0 (.int .i64 hd)
        have OF1 := OF0.set_ 1 (.slice (some ⟨lb, 0, none⟩) xs.length cap)
        have z0 := (OF0.cell 0).trans rfl
        have z1 := (OF1.cell 1).trans rfl
        simp only [List.set_cons_zero, List.set_cons_succ, List.getElem?_cons_zero, List.getElem?_cons_succ] at o0 o1 r0 r1 z0 z1
        have FIN := Lib.hid (by have h := done_box (hd := hd) HR6.out HRD6.out HFR6.out HCD6.out.hB HDC.out; rw [List.length_set] at h; exact h)
        clear OF0 OF1
        go_wp2
        refine bodyPost_ret (v := .agg #[.int .i64 hd, .slice (some ⟨lb, 0, none⟩) xs.length cap]) (by simp [results, Try.results15, go_sem, z0, z1]) rfl ?_
        exact FIN.out.mono (by omega)
      · have hgl := HCD5.out.g_lt
        have hBB := HCD5.out.hB
        have hwz := HCD5.out.fr.size
        clear o0 o1 of0 of1 olt hv
        go_wp2
        go_loopw [6] (fun iv wr => ∃ j : Nat, j ≤ 400 ∧ iv = .int .i64 j ∧ ∃ (A : Option Addr) (c : Nat) (zs : List Pv), Hid (zs.length = xs.length + j) ∧ Hid (∀ x ∈ zs, x.p.body.length ≤ 999) ∧ Hid (CD w B g (N + 30001 + 1 + 1) cb hd A c zs wr)) (fun iv _ => 400 - (intOf iv).toNat)
        case atStart => exact ⟨0, by omega, rfl, _, cap, xs, rfl, HL9, HCD5⟩
        case round =>
          clear HCD5 HL9
          obtain ⟨j, hj, rfl, A, c, zs, HLZ, HL9, HCD5⟩ := hrel
          have o0 := (HCD5.out.o.cell 0).trans rfl
          have o1 := (HCD5.out.o.cell 1).trans rfl
          have of1 := HCD5.out.o.frozen 1
          have olt := HCD5.out.o.lt
          simp only [List.getElem?_cons_zero, List.getElem?_cons_succ] at o0 o1
          by_cases hj4 : j < 400
          · have hj' : (j : Int) < 400 := by omega
            have hzl := HLZ.out
            have HZL := Lib.hid hzl
            obtain ⟨hh0, hh1⟩ := HHD.out
            have HB8 := Lib.hid (below_box (w := wr) (.cells #[.int .i64 (hd - 1), .slice none 0 0] 46))
            have HC8 := Lib.hid (HCD5.out.keep HB8.out)
            have HN := Lib.hid (Own.new wr 46 #[.int .i64 (hd - 1), .slice none 0 0]).row.news
            have hbs : w.heap.size + 1 ≤ wr.heap.size := by have := HCD5.out.cb; omega
            clear HCD5 hzl
            have hz8 : zs.length ≤ 1000 := by have := HLZ.out; omega
            go_wp2_with (at_builtin; refine wpList_append_own_at _ rfl _ _ 23 rfl (w.heap.size + 1) 46 i1 (.agg #[.int .i64 0, .slice none 0 0]) 2 32 Try.underlying23 HI1.out.1 HI1.out.2.1 HI1.out.2.2.1 HI1.out.2.2.2 rfl (by decide) _ _ (pvCells zs) rfl HC8.out.p.o ⟨wr.heap.size, 0, none⟩ 1 1 [.int .i64 (hd - 1), .slice none 0 0] rfl rfl HN.out ?c2 ?c3 ?c4 ?c5 ?_)
            case c2 => first | exact ⟨rfl, rfl⟩ | (intro u hu; simp at hu; rcases hu with rfl | rfl <;> rfl)
            case c3 => unfold maxLen; omega
            case c4 => omega
            case c5 => first | omega | (simp; omega)
            intro v7 w7 hown7 hgrow7 _ _
            obtain ⟨g7, c7, rfl, hg7, hg7'⟩ := own_some hown7 (by omega)
            obtain ⟨o7, hcd7⟩ := HC8.out.push hgrow7 hown7
            have HC9 := Lib.hid hcd7
            have y1 := (o7.cell 1).trans rfl
            have y0 := (o7.cell 0).trans rfl
            have yf1 := o7.frozen 1
            have ylt := o7.lt
            simp only [List.getElem?_cons_zero, List.getElem?_cons_succ] at y0 y1
            clear hown7 hgrow7 o7 hcd7 HC8 HB8 HN o0 o1 of1 olt
            go_wp2
            go_roundw
            case rel => exact ⟨j + 1, by omega, by go_num, _, c7, _, by show _ = _; rw [List.length_append, List.length_singleton, HZL.out]; omega, fun x hx => by
              rcases List.mem_append.1 hx with h | h
              · exact HL9.out x h
              · rw [List.mem_singleton] at h; subst h; simp, HC9⟩
            case measure => simp [intOf]; omega
          · have hj' : ¬ (j : Int) < 400 := by omega
            have r0 := (HCD5.out.r.cell 0).trans rfl
            have r1 := (HCD5.out.r.cell 1).trans rfl
            have f0 := HCD5.out.r.frozen 0
            have f1 := HCD5.out.r.frozen 1
            have lt5 := HCD5.out.r.lt
            have OF0 := HCD5.out.r.set_ 0 (.int .i64 hd)
            have OF1 := OF0.set_ 1 (.slice A zs.length c)
            have z0 := (OF0.cell 0).trans rfl
            have z1 := (OF1.cell 1).trans rfl
            simp only [List.set_cons_zero, List.set_cons_succ, List.getElem?_cons_zero, List.getElem?_cons_succ] at r0 r1 z0 z1
            have FIN := Lib.hid (HCD5.out.small (by have := HLZ.out; omega) HL9.out)
            clear OF0 OF1
            go_wp2
            refine bodyPost_ret (v := .agg #[.int .i64 hd, .slice A zs.length c]) (by simp [results, Try.results15, go_sem, z0, z1]) rfl ?_
            exact FIN.out.mono (by omega)

end Go.Proofs.Ytkgiklmdpdakbaa

