/- The walk of the law FnJsonTwice. -/
import Derived.Test.YtmmafhibojipjaaDoorJTX
namespace Go.Proofs.YtmmafhibojipjaaDoor
open Go.RowKit
set_option linter.unusedVariables false

set_option maxRecDepth 100000 in
set_option maxHeartbeats 4000000 in
theorem jsonTwice_walk (C : Option Addr) (ccap : Nat) (zs : List Int) (w : World) (hrow : Row w C (byts zs)) (hz : zs.length ≤ maxLen) (hcap : zs.length ≤ ccap) (hzs : ∀ z ∈ zs, 0 ≤ z ∧ z ≤ 255) :
    Calls Tryd.prog 7 #[.slice C zs.length ccap] w (LawTrue w) := by
  have HR := Lib.hid hrow
  have HZ := Lib.hid hzs
  clear hrow hzs
  unfold maxLen at hz
  by_cases hbig : 1048576 < zs.length
  · have hbig' : (1048576 : Int) < (zs.length : Int) := by omega
    go_enter Tryd.func7, Tryd.ntmps7
    go_wp2
    go_ret
    exact ⟨rfl, Below.refl _ _⟩
  have hbig' : ¬ (1048576 : Int) < (zs.length : Int) := by omega
  go_enter Tryd.func7, Tryd.ntmps7
  go_wp2_with fail
  refine (drawJsonOk_any C ccap zs _ HR.out (by omega) hcap HZ.out).mono ?_
  rintro e w1 ⟨k, f, t, ns, kids, A, K, ca, kc, rfl, hv, hl, hb1⟩
  have HL := VJ.start hv hl hb1
  clear hv hl hb1
  obtain ⟨p0, p1, p2, p3, p4⟩ := HL.cells
  have pl := HL.o.lt
  have HLH := Lib.hid HL
  clear HL
  simp only [c5]
  simp only [c5] at HLH p0 p1 p2 p3 p4 pl
  go_wp2_with fail
  clear p0 p1 p2 p3 p4 pl
  generalize w1.alloc (.cells #[.int .i64 k, .bool f, .string t, .slice A ns.length ca, .slice K kids.length kc] 26) = wv at *
  refine (implOk_any k f t ns kids A K ca kc 0 wv HLH.out.v HLH.out.l HLH.out.e).mono ?_
  rintro e w3 ⟨r, rfl, hr, hb⟩
  have HL3 := Lib.hid (HLH.out.keep hb)
  have HRR := Lib.hid hr
  clear hb hr HLH
  obtain ⟨p0, p1, p2, p3, p4⟩ := HL3.out.cells
  have pl := HL3.out.o.lt
  go_wp2_with fail
  clear p0 p1 p2 p3 p4 pl
  refine (specOk_any k f t ns kids A K ca kc 0 w3 HL3.out.v HL3.out.l).mono ?_
  rintro e w4 ⟨r2, rfl, hr2, hb⟩
  have HL4 := Lib.hid (HL3.out.keep hb)
  have hrr : r2 = r := by
    have a1 := HRR.out
    cases r2 <;> cases r <;> simp_all
  subst hrr
  clear hb hr2 HL3
  cases r2
  · obtain ⟨p0, p1, p2, p3, p4⟩ := HL4.out.cells
    have pl := HL4.out.o.lt
    go_wp2_with fail
    refine (specOk_any k f t ns kids A K ca kc 0 w4 HL4.out.v HL4.out.l).mono ?_
    rintro e w5 ⟨r3, rfl, hr3, hb⟩
    have HL5 := Lib.hid (HL4.out.keep hb)
    obtain rfl : r3 = false := by
      have a1 := HRR.out
      cases r3 <;> simp_all
    clear hb hr3 p0 p1 p2 p3 p4 pl
    go_wp2
    go_ret
    exact ⟨rfl, HL5.out.b⟩
  · have HJ := Lib.hid (HRR.out.1 rfl)
    clear HRR
    by_cases hk6 : k = 6 ∧ ns.length ≠ 0
    · obtain ⟨rfl, hn0⟩ := hk6
      have hn1 : ((ns.length : Int) == 0) = false := by rw [beq_eq_false_iff_ne]; omega
      obtain ⟨i1, hi0, hz0, hz1, hz2⟩ := info_parts infoSt
      have HIS := Lib.hid (And.intro hi0 (And.intro hz0 (And.intro hz1 hz2)))
      clear hi0 hz0 hz1 hz2
      obtain ⟨i0, hi0, hz0, hz1, hz2⟩ := info_parts infoJs
      have HIJ := Lib.hid (And.intro hi0 (And.intro hz0 (And.intro hz1 hz2)))
      clear hi0 hz0 hz1 hz2
      have hnpos : 0 < ns.length := by omega
      have hkn : kids.length = ns.length := by
        rcases HJ.out.2.1.one with h | h | h | h | h | h <;> omega
      have HKN := Lib.hid hkn
      have hnM : ns.length ≤ 1048576 ∧ kids.length ≤ 1048576 := by cases HL4.out.l with | mk _ _ _ _ _ _ h2 _ h4 _ => exact ⟨h2, h4⟩
      obtain ⟨hnM, hkM⟩ := hnM
      clear hkn hn0
      obtain ⟨p0, p1, p2, p3, p4⟩ := HL4.out.cells
      have pl := HL4.out.o.lt
      have HX0 := HL4.out.copy
      simp only [c5] at HX0
      go_upto_region 8 with fail
      clear p0 p1 p2 p3 p4 pl
      generalize w4.alloc (.cells #[.int .i64 6, .bool f, .string t, .slice A ns.length ca, .slice K kids.length kc] 26) = wa at *
      have HX := Lib.hid HX0.drew.grow
      clear HX0 HL4
      go_cut [] (fun wx => ∃ (A9 : Option Addr) (c9 : Nat), Hid (XJ w w1.heap.size w4.heap.size wa.drew.heap.size 6 f t ns kids A K ca kc [.int .i64 6, .bool f, .string t, .slice A9 (ns.length + 1) c9, .slice K kids.length kc] wx) ∧ Hid (wx.ownsRow wa.drew.heap.size 9 1 (.slice A9 (ns.length + 1) c9) (ns.length + 1) (strs ns ++ [.string ns[0]])))
      case first =>
        obtain ⟨bA, oA, rfl, hcell⟩ : ∃ b off, A = some ⟨b, off, none⟩ ∧ ∀ i (h : i < (strs ns).length), wa.drew.cell? ⟨b, off + i, none⟩ = some (strs ns)[i] := by
          rcases HX.out.c.jsV.1.a with h | h
          · have h1 : (strs ns).length = ns.length := by simp [strs]
            rw [h] at h1; simp at h1; omega
          · exact h
        obtain ⟨wb, hwb⟩ : ∃ wb, wa.drew = wb := ⟨_, rfl⟩
        rw [hwb] at hcell HX
        have HWB := Lib.hid hwb
        clear hwb
        have hns0 : ns[0]? = some ns[0] := List.getElem?_eq_getElem hnpos
        obtain ⟨n0, hn0⟩ : ∃ n0, ns[0] = n0 := ⟨_, rfl⟩
        have hc0 : wb.cell? ⟨bA, oA, none⟩ = some (.string n0) := by
          have h := hcell 0 (by simpa using hnpos)
          rw [← hn0]; simpa [strs] using h
        have HN0 := Lib.hid hn0
        have hbA : bA < wb.heap.size := cell_lt hc0
        have hbX : bA ≠ w4.heap.size ∧ bA ≠ w1.heap.size := by
          have hc := HX.out.c
          generalize hcs : c5 6 f t (some ⟨bA, oA, none⟩) ns.length ca K kids.length kc = cs at hc
          generalize hp : Js.mk 6 f t ns kids = p at hc
          cases hc with
          | mk k0 f0 t0 ns0 kids0 A0 K0 ca0 kc0 kb ko css hA lA eA hK hl hcc hkk =>
            injection hp with _ _ _ e1 e2
            subst e1 e2
            simp only [c5, List.cons.injEq, Value.slice.injEq, and_true, true_and] at hcs
            obtain ⟨_, _, _, ⟨rfl, rfl⟩, _, _⟩ := hcs
            have := lA (fun e => by rw [e] at hnpos; simp at hnpos) _ rfl
            exact ⟨this.2.2, this.2.1⟩
        have hv3 := HX.out.o.cell 3
        simp only [c5, List.getElem?_cons_zero, List.getElem?_cons_succ] at hv3
        have HS : Hid (∀ W, Kept wb.heap.size w4.heap.size wb W → W.cell? ⟨w1.heap.size, 3, none⟩ = some (.slice (some ⟨bA, oA, none⟩) ns.length ca) ∧ W.cell? ⟨bA, oA, none⟩ = some (.string n0)) :=
          fun W h => ⟨h.cell hv3 HX.out.vB HX.out.hne, h.cell hc0 hbA hbX.1⟩
        have HLL : Hid ((strs ns).length = ns.length * 1 ∧ (∀ u ∈ strs ns, u.oneCell' = true) ∧ ∀ W, Kept wb.heap.size w4.heap.size wb W → ∀ j u, (strs ns)[j]? = some u → W.cell? ((⟨bA, oA, none⟩ : Addr).add j) = some u) := by
          refine ⟨by simp, fun u hu => ?_, fun W h j u hu => ?_⟩
          · obtain ⟨x, _, rfl⟩ := List.mem_map.1 hu; rfl
          · obtain ⟨hj, e⟩ := List.getElem?_eq_some_iff.1 hu
            rw [add_at, ← e]
            exact h.cell (hcell j hj) hbA hbX.1
        have HNO : Hid (∀ u ∈ ([.string n0] : List Value), u.oneCell' = true) := fun u hu => by simp at hu; subst hu; rfl
        have HBwb : Hid (Below wb.heap.size wb wb) := Below.refl _ _
        clear hcell hc0 hbA hbX hv3 hns0 hn0
        refine wp_region_held_drew (S := (fun X => X.cell? ⟨w1.heap.size, 3, none⟩ = some (.slice (some ⟨bA, oA, none⟩) ns.length ca) ∧ X.cell? ⟨bA, oA, none⟩ = some (.string n0))) (by kernel_rfl) ?_ (fun hHeld => ?_)
        · rw [HWB.out]; exact HS.out _ (.of (Below.refl _ _))
        rw [HWB.out] at hHeld ⊢
        (first
          | (refine held_take (i := 1) (v := ?_) rfl (by kernel_rfl) (by kernel_rfl) (by kernel_rfl) (fun _ _ _ h => h) (Or.inl ⟨rfl, ?_⟩) (by assumption) ?_; rotate_left; (intro X hSw; (try dsimp only at hSw); (go_simp <;> with_reducible rfl)))
          | (refine held_take (i := 1) (v := undef) rfl (by kernel_rfl) (by kernel_rfl) (by kernel_rfl) (fun _ _ _ h => h) (Or.inr ⟨rfl, rfl⟩) (by assumption) ?_)); simp only [Act.put, List.setIfInBounds_toArray, List.set_cons_zero, List.set_cons_succ]
        (first
          | (refine held_take (i := 2) (v := ?_) rfl (by kernel_rfl) (by kernel_rfl) (by kernel_rfl) (fun _ _ _ h => h) (Or.inl ⟨rfl, ?_⟩) (by assumption) ?_; rotate_left; (intro X hSw; (try dsimp only at hSw); (go_simp <;> with_reducible rfl)))
          | (refine held_take (i := 2) (v := undef) rfl (by kernel_rfl) (by kernel_rfl) (by kernel_rfl) (fun _ _ _ h => h) (Or.inr ⟨rfl, rfl⟩) (by assumption) ?_)); simp only [Act.put, List.setIfInBounds_toArray, List.set_cons_zero, List.set_cons_succ]
        (first
          | (refine held_take (i := 4) (v := ?_) rfl (by kernel_rfl) (by kernel_rfl) (by kernel_rfl) (fun _ _ _ h => h) (Or.inl ⟨rfl, ?_⟩) (by assumption) ?_; rotate_left; (intro X hSw; (try dsimp only at hSw); (go_simp <;> with_reducible rfl)))
          | (refine held_take (i := 4) (v := undef) rfl (by kernel_rfl) (by kernel_rfl) (by kernel_rfl) (fun _ _ _ h => h) (Or.inr ⟨rfl, rfl⟩) (by assumption) ?_)); simp only [Act.put, List.setIfInBounds_toArray, List.set_cons_zero, List.set_cons_succ]
        (first
          | (refine held_take (i := 5) (v := ?_) rfl (by kernel_rfl) (by kernel_rfl) (by kernel_rfl) (fun _ _ _ h => h) (Or.inl ⟨rfl, ?_⟩) (by assumption) ?_; rotate_left; (intro X hSw; (try dsimp only at hSw); (go_simp <;> with_reducible rfl)))
          | (refine held_take (i := 5) (v := undef) rfl (by kernel_rfl) (by kernel_rfl) (by kernel_rfl) (fun _ _ _ h => h) (Or.inr ⟨rfl, rfl⟩) (by assumption) ?_)); simp only [Act.put, List.setIfInBounds_toArray, List.set_cons_zero, List.set_cons_succ]
        (first
          | (refine held_take (i := 6) (v := ?_) rfl (by kernel_rfl) (by kernel_rfl) (by kernel_rfl) (fun _ _ _ h => h) (Or.inl ⟨rfl, ?_⟩) (by assumption) ?_; rotate_left; (intro X hSw; (try dsimp only at hSw); (go_simp <;> with_reducible rfl)))
          | (refine held_take (i := 6) (v := undef) rfl (by kernel_rfl) (by kernel_rfl) (by kernel_rfl) (fun _ _ _ h => h) (Or.inr ⟨rfl, rfl⟩) (by assumption) ?_)); simp only [Act.put, List.setIfInBounds_toArray, List.set_cons_zero, List.set_cons_succ]
        (first
          | (refine held_take (i := 7) (v := ?_) rfl (by kernel_rfl) (by kernel_rfl) (by kernel_rfl) (fun _ _ _ h => h) (Or.inl ⟨rfl, ?_⟩) (by assumption) ?_; rotate_left; (intro X hSw; (try dsimp only at hSw); (go_simp <;> with_reducible rfl)))
          | (refine held_take (i := 7) (v := undef) rfl (by kernel_rfl) (by kernel_rfl) (by kernel_rfl) (fun _ _ _ h => h) (Or.inr ⟨rfl, rfl⟩) (by assumption) ?_)); simp only [Act.put, List.setIfInBounds_toArray, List.set_cons_zero, List.set_cons_succ]
        refine wpAnyH_ready (rs := [0, 8]) (by kernel_rfl) (by simp) ?_
        refine AllReadyH.cons rfl (fun K hK => ?_) (AllReadyH.cons rfl (fun K hK => ?_) AllReadyH.nil)
        · -- 0
          go_simp
          have HBwx : Hid (Below wb.heap.size wb (wb.alloc (.cells #[] 9))) := HBwb.out.alloc HBwb.out.size _
          have HE : Hid ((wb.alloc (.cells #[] 9)).ownsRow wb.heap.size 9 1 (.slice (some ⟨wb.heap.size, 0, none⟩) 0 0) 0 []) := own_new wb 9 1 wb.heap.size 0 [] HBwb.out.size (by simp) (by decide)
          have hz0 : wb.heap.size < (wb.alloc (.cells #[] 9)).heap.size := by simp
          generalize wb.alloc (.cells #[] 9) = wx at *
          clear hHeld
          refine hK.out _ _ ?_ (fun hHeld => ?_)
          · exact HS.out _ (.of HBwx.out)
          clear hK K
          refine wpAnyH_ready (rs := [3, 8]) (by kernel_rfl) (by simp) ?_
          refine AllReadyH.cons rfl (fun K hK => ?_) (AllReadyH.cons rfl (fun K hK => ?_) AllReadyH.nil)
          · -- 0 3 8
            refine step_own_v wx rfl _ _ 23 rfl wb.heap.size 9 i1 (.string ⟨#[]⟩) 1 16 Tryd.underlying23 HIS.out.1 HIS.out.2.1 HIS.out.2.2.1 HIS.out.2.2.2 rfl (by decide) _ _ _ rfl HE.out ⟨bA, oA, none⟩ ns.length ca (strs ns) rfl HLL.out.1 (HLL.out.2.2 _ (.of HBwx.out)) HLL.out.2.1 ?d3 ?d4 ?d5 ?_
            case d3 => unfold maxLen; omega
            case d4 => omega
            case d5 => exact HBwx.out.size
            intro v3 wy hown hgrow hat
            have HBwy := Lib.hid (HBwx.out.grown hgrow HBwx.out.size (fun q hq => (HE.out.lt q hq).1))
            have HV : Hid (wy.ownsRow wb.heap.size 9 1 v3 ns.length (strs ns)) := by have h := hown; rw [Nat.zero_add, List.nil_append] at h; exact h
            have hsz3 := hgrow.size
            clear hown hgrow hat HE hHeld
            refine hK.out _ _ ?_ (fun hHeld => ?_)
            · exact HS.out _ (.of HBwy.out)
            clear hK K
            refine wpAnyH_ready (rs := [8]) (by kernel_rfl) (by simp) ?_
            refine AllReadyH.cons rfl (fun K hK => ?_) AllReadyH.nil
            go_simp
            have HBwz : Hid (Below wb.heap.size wb (wy.alloc (.cells #[.string n0] 9))) := HBwy.out.alloc HBwy.out.size _
            have HN8 : Hid (Own (wy.alloc (.cells #[.string n0] 9)) wy.heap.size 9 [.string n0]) := Own.new wy 9 #[.string n0]
            have hz8 : wy.heap.size < (wy.alloc (.cells #[.string n0] 9)).heap.size := by simp
            have HV := Lib.hid (own_keep HV.out (below_box (w := wy) (.cells #[.string n0] 9)))
            generalize wy.alloc (.cells #[.string n0] 9) = wz at *
            clear hHeld
            refine hK.out _ _ ?_ (fun hHeld => ?_)
            · exact HS.out _ (.of HBwz.out)
            clear hK K
            refine wpAnyH_ready (rs := [9]) (by kernel_rfl) (by simp) ?_
            refine AllReadyH.cons rfl (fun K hK => ?_) AllReadyH.nil
            refine step_own_v wz rfl _ _ 23 rfl wb.heap.size 9 i1 (.string ⟨#[]⟩) 1 16 Tryd.underlying23 HIS.out.1 HIS.out.2.1 HIS.out.2.2.1 HIS.out.2.2.2 rfl (by decide) _ _ _ rfl HV.out ⟨wy.heap.size, 0, none⟩ 1 1 [.string n0] rfl rfl (own_news HN8.out) HNO.out ?d3 ?d4 ?d5 ?_
            case d3 => unfold maxLen; omega
            case d4 => omega
            case d5 => exact HBwz.out.size
            intro v9 w9 hown hgrow hat
            have HB9 := Lib.hid (HBwz.out.grown hgrow HBwz.out.size (fun q hq => (HV.out.lt q hq).1))
            obtain ⟨A9, c9, rfl⟩ := own_form hown
            have HV9 := Lib.hid hown
            clear hown hgrow hat HV HN8 hHeld
            refine hK.out _ _ ?_ (fun hHeld => ?_)
            · exact HS.out _ (.of HB9.out)
            clear hK K
            (first
              | (refine held_take (i := 10) (v := ?_) rfl (by kernel_rfl) (by kernel_rfl) (by kernel_rfl) (fun _ _ _ h => h) (Or.inl ⟨rfl, ?_⟩) (by assumption) ?_; rotate_left; (intro X hSw; (try dsimp only at hSw); (go_simp <;> with_reducible rfl)))
              | (refine held_take (i := 10) (v := undef) rfl (by kernel_rfl) (by kernel_rfl) (by kernel_rfl) (fun _ _ _ h => h) (Or.inr ⟨rfl, rfl⟩) (by assumption) ?_)); simp only [Act.put, List.setIfInBounds_toArray, List.set_cons_zero, List.set_cons_succ]
            refine wpAnyH_ready (rs := [11]) (by kernel_rfl) (by simp) ?_
            refine AllReadyH.cons rfl (fun K hK => ?_) AllReadyH.nil
            have HX9 := HX.out.upon HB9.out
            have e3 := HX9.x.cell 3
            simp only [c5, List.getElem?_cons_zero, List.getElem?_cons_succ, List.set_cons_zero, List.set_cons_succ] at e3
            have f3 := HX9.x.frozen 3
            have pl := HX9.x.lt
            clear hHeld
            go_simp
            refine hK.out _ _ ?_ (fun hHeld => ?_)
            · exact HS.out _ (.set (.of HB9.out) _ _)
            clear hK K
            refine wpAnyH_done (by kernel_rfl) ?_ _
            have HXF := Lib.hid (HX9.set 3 (.slice A9 (ns.length + 1) c9))
            have HVF := Lib.hid (own_far (p := ⟨w4.heap.size, 3, none⟩) HV9.out (fun q hq => by have := (HV9.out.lt q hq).1; have := HX.out.xB; show q ≠ w4.heap.size; omega) (.slice A9 (ns.length + 1) c9))
            have HKF := Lib.hid (Kept.set (X := w4.heap.size) (.of HB9.out) 3 (.slice A9 (ns.length + 1) c9))
            clear HX9 HV9 HB9 e3 f3 pl hHeld
            go_wp2
            go_meet
            rw [HWB.out]
            exact ⟨A9, c9, HXF, by rw [HN0.out]; exact HVF⟩
          · -- 0 8 3
            go_simp
            have HBwy : Hid (Below wb.heap.size wb (wx.alloc (.cells #[.string n0] 9))) := HBwx.out.alloc HBwx.out.size _
            have HN8 : Hid (Own (wx.alloc (.cells #[.string n0] 9)) wx.heap.size 9 [.string n0]) := Own.new wx 9 #[.string n0]
            have hz8 : wx.heap.size < (wx.alloc (.cells #[.string n0] 9)).heap.size := by simp
            have HE := Lib.hid (own_keep HE.out (below_box (w := wx) (.cells #[.string n0] 9)))
            generalize wx.alloc (.cells #[.string n0] 9) = wy at *
            clear hHeld
            refine hK.out _ _ ?_ (fun hHeld => ?_)
            · exact HS.out _ (.of HBwy.out)
            clear hK K
            refine wpAnyH_ready (rs := [3]) (by kernel_rfl) (by simp) ?_
            refine AllReadyH.cons rfl (fun K hK => ?_) AllReadyH.nil
            refine step_own_v wy rfl _ _ 23 rfl wb.heap.size 9 i1 (.string ⟨#[]⟩) 1 16 Tryd.underlying23 HIS.out.1 HIS.out.2.1 HIS.out.2.2.1 HIS.out.2.2.2 rfl (by decide) _ _ _ rfl HE.out ⟨bA, oA, none⟩ ns.length ca (strs ns) rfl HLL.out.1 (HLL.out.2.2 _ (.of HBwy.out)) HLL.out.2.1 ?d3 ?d4 ?d5 ?_
            case d3 => unfold maxLen; omega
            case d4 => omega
            case d5 => exact HBwy.out.size
            intro v3 wz hown hgrow hat
            have HBwz := Lib.hid (HBwy.out.grown hgrow HBwy.out.size (fun q hq => (HE.out.lt q hq).1))
            have HN8 : Hid (Own wz wx.heap.size 9 [.string n0]) := (hgrow.block _ HN8.out.lt (fun e => by have e2 : some wx.heap.size = some wb.heap.size := e; injection e2 with e2; omega)).trans HN8.out
            have HV : Hid (wz.ownsRow wb.heap.size 9 1 v3 ns.length (strs ns)) := by have h := hown; rw [Nat.zero_add, List.nil_append] at h; exact h
            have hsz3 := hgrow.size
            clear hown hgrow hat HE hHeld
            refine hK.out _ _ ?_ (fun hHeld => ?_)
            · exact HS.out _ (.of HBwz.out)
            clear hK K
            refine wpAnyH_ready (rs := [9]) (by kernel_rfl) (by simp) ?_
            refine AllReadyH.cons rfl (fun K hK => ?_) AllReadyH.nil
            refine step_own_v wz rfl _ _ 23 rfl wb.heap.size 9 i1 (.string ⟨#[]⟩) 1 16 Tryd.underlying23 HIS.out.1 HIS.out.2.1 HIS.out.2.2.1 HIS.out.2.2.2 rfl (by decide) _ _ _ rfl HV.out ⟨wx.heap.size, 0, none⟩ 1 1 [.string n0] rfl rfl (own_news HN8.out) HNO.out ?d3 ?d4 ?d5 ?_
            case d3 => unfold maxLen; omega
            case d4 => omega
            case d5 => exact HBwz.out.size
            intro v9 w9 hown hgrow hat
            have HB9 := Lib.hid (HBwz.out.grown hgrow HBwz.out.size (fun q hq => (HV.out.lt q hq).1))
            obtain ⟨A9, c9, rfl⟩ := own_form hown
            have HV9 := Lib.hid hown
            clear hown hgrow hat HV HN8 hHeld
            refine hK.out _ _ ?_ (fun hHeld => ?_)
            · exact HS.out _ (.of HB9.out)
            clear hK K
            (first
              | (refine held_take (i := 10) (v := ?_) rfl (by kernel_rfl) (by kernel_rfl) (by kernel_rfl) (fun _ _ _ h => h) (Or.inl ⟨rfl, ?_⟩) (by assumption) ?_; rotate_left; (intro X hSw; (try dsimp only at hSw); (go_simp <;> with_reducible rfl)))
              | (refine held_take (i := 10) (v := undef) rfl (by kernel_rfl) (by kernel_rfl) (by kernel_rfl) (fun _ _ _ h => h) (Or.inr ⟨rfl, rfl⟩) (by assumption) ?_)); simp only [Act.put, List.setIfInBounds_toArray, List.set_cons_zero, List.set_cons_succ]
            refine wpAnyH_ready (rs := [11]) (by kernel_rfl) (by simp) ?_
            refine AllReadyH.cons rfl (fun K hK => ?_) AllReadyH.nil
            have HX9 := HX.out.upon HB9.out
            have e3 := HX9.x.cell 3
            simp only [c5, List.getElem?_cons_zero, List.getElem?_cons_succ, List.set_cons_zero, List.set_cons_succ] at e3
            have f3 := HX9.x.frozen 3
            have pl := HX9.x.lt
            clear hHeld
            go_simp
            refine hK.out _ _ ?_ (fun hHeld => ?_)
            · exact HS.out _ (.set (.of HB9.out) _ _)
            clear hK K
            refine wpAnyH_done (by kernel_rfl) ?_ _
            have HXF := Lib.hid (HX9.set 3 (.slice A9 (ns.length + 1) c9))
            have HVF := Lib.hid (own_far (p := ⟨w4.heap.size, 3, none⟩) HV9.out (fun q hq => by have := (HV9.out.lt q hq).1; have := HX.out.xB; show q ≠ w4.heap.size; omega) (.slice A9 (ns.length + 1) c9))
            have HKF := Lib.hid (Kept.set (X := w4.heap.size) (.of HB9.out) 3 (.slice A9 (ns.length + 1) c9))
            clear HX9 HV9 HB9 e3 f3 pl hHeld
            go_wp2
            go_meet
            rw [HWB.out]
            exact ⟨A9, c9, HXF, by rw [HN0.out]; exact HVF⟩
        · -- 8 0 3
          go_simp
          have HBwx : Hid (Below wb.heap.size wb (wb.alloc (.cells #[.string n0] 9))) := HBwb.out.alloc HBwb.out.size _
          have HN8 : Hid (Own (wb.alloc (.cells #[.string n0] 9)) wb.heap.size 9 [.string n0]) := Own.new wb 9 #[.string n0]
          have hz8 : wb.heap.size < (wb.alloc (.cells #[.string n0] 9)).heap.size := by simp
          generalize wb.alloc (.cells #[.string n0] 9) = wx at *
          clear hHeld
          refine hK.out _ _ ?_ (fun hHeld => ?_)
          · exact HS.out _ (.of HBwx.out)
          clear hK K
          refine wpAnyH_ready (rs := [0]) (by kernel_rfl) (by simp) ?_
          refine AllReadyH.cons rfl (fun K hK => ?_) AllReadyH.nil
          go_simp
          have HBwy : Hid (Below wb.heap.size wb (wx.alloc (.cells #[] 9))) := HBwx.out.alloc HBwx.out.size _
          have HE : Hid ((wx.alloc (.cells #[] 9)).ownsRow wb.heap.size 9 1 (.slice (some ⟨wx.heap.size, 0, none⟩) 0 0) 0 []) := own_new wx 9 1 wb.heap.size 0 [] HBwx.out.size (by simp) (by decide)
          have hz0 : wx.heap.size < (wx.alloc (.cells #[] 9)).heap.size := by simp
          have HN8 := Lib.hid (HN8.out.alloc (.cells #[] 9))
          generalize wx.alloc (.cells #[] 9) = wy at *
          clear hHeld
          refine hK.out _ _ ?_ (fun hHeld => ?_)
          · exact HS.out _ (.of HBwy.out)
          clear hK K
          refine wpAnyH_ready (rs := [3]) (by kernel_rfl) (by simp) ?_
          refine AllReadyH.cons rfl (fun K hK => ?_) AllReadyH.nil
          refine step_own_v wy rfl _ _ 23 rfl wb.heap.size 9 i1 (.string ⟨#[]⟩) 1 16 Tryd.underlying23 HIS.out.1 HIS.out.2.1 HIS.out.2.2.1 HIS.out.2.2.2 rfl (by decide) _ _ _ rfl HE.out ⟨bA, oA, none⟩ ns.length ca (strs ns) rfl HLL.out.1 (HLL.out.2.2 _ (.of HBwy.out)) HLL.out.2.1 ?d3 ?d4 ?d5 ?_
          case d3 => unfold maxLen; omega
          case d4 => omega
          case d5 => exact HBwy.out.size
          intro v3 wz hown hgrow hat
          have HBwz := Lib.hid (HBwy.out.grown hgrow HBwy.out.size (fun q hq => (HE.out.lt q hq).1))
          have HN8 : Hid (Own wz wb.heap.size 9 [.string n0]) := (hgrow.block _ HN8.out.lt (fun e => by have e2 : some wb.heap.size = some wx.heap.size := e; injection e2 with e2; omega)).trans HN8.out
          have HV : Hid (wz.ownsRow wb.heap.size 9 1 v3 ns.length (strs ns)) := by have h := hown; rw [Nat.zero_add, List.nil_append] at h; exact h
          have hsz3 := hgrow.size
          clear hown hgrow hat HE hHeld
          refine hK.out _ _ ?_ (fun hHeld => ?_)
          · exact HS.out _ (.of HBwz.out)
          clear hK K
          refine wpAnyH_ready (rs := [9]) (by kernel_rfl) (by simp) ?_
          refine AllReadyH.cons rfl (fun K hK => ?_) AllReadyH.nil
          refine step_own_v wz rfl _ _ 23 rfl wb.heap.size 9 i1 (.string ⟨#[]⟩) 1 16 Tryd.underlying23 HIS.out.1 HIS.out.2.1 HIS.out.2.2.1 HIS.out.2.2.2 rfl (by decide) _ _ _ rfl HV.out ⟨wb.heap.size, 0, none⟩ 1 1 [.string n0] rfl rfl (own_news HN8.out) HNO.out ?d3 ?d4 ?d5 ?_
          case d3 => unfold maxLen; omega
          case d4 => omega
          case d5 => exact HBwz.out.size
          intro v9 w9 hown hgrow hat
          have HB9 := Lib.hid (HBwz.out.grown hgrow HBwz.out.size (fun q hq => (HV.out.lt q hq).1))
          obtain ⟨A9, c9, rfl⟩ := own_form hown
          have HV9 := Lib.hid hown
          clear hown hgrow hat HV HN8 hHeld
          refine hK.out _ _ ?_ (fun hHeld => ?_)
          · exact HS.out _ (.of HB9.out)
          clear hK K
          (first
            | (refine held_take (i := 10) (v := ?_) rfl (by kernel_rfl) (by kernel_rfl) (by kernel_rfl) (fun _ _ _ h => h) (Or.inl ⟨rfl, ?_⟩) (by assumption) ?_; rotate_left; (intro X hSw; (try dsimp only at hSw); (go_simp <;> with_reducible rfl)))
            | (refine held_take (i := 10) (v := undef) rfl (by kernel_rfl) (by kernel_rfl) (by kernel_rfl) (fun _ _ _ h => h) (Or.inr ⟨rfl, rfl⟩) (by assumption) ?_)); simp only [Act.put, List.setIfInBounds_toArray, List.set_cons_zero, List.set_cons_succ]
          refine wpAnyH_ready (rs := [11]) (by kernel_rfl) (by simp) ?_
          refine AllReadyH.cons rfl (fun K hK => ?_) AllReadyH.nil
          have HX9 := HX.out.upon HB9.out
          have e3 := HX9.x.cell 3
          simp only [c5, List.getElem?_cons_zero, List.getElem?_cons_succ, List.set_cons_zero, List.set_cons_succ] at e3
          have f3 := HX9.x.frozen 3
          have pl := HX9.x.lt
          clear hHeld
          go_simp
          refine hK.out _ _ ?_ (fun hHeld => ?_)
          · exact HS.out _ (.set (.of HB9.out) _ _)
          clear hK K
          refine wpAnyH_done (by kernel_rfl) ?_ _
          have HXF := Lib.hid (HX9.set 3 (.slice A9 (ns.length + 1) c9))
          have HVF := Lib.hid (own_far (p := ⟨w4.heap.size, 3, none⟩) HV9.out (fun q hq => by have := (HV9.out.lt q hq).1; have := HX.out.xB; show q ≠ w4.heap.size; omega) (.slice A9 (ns.length + 1) c9))
          have HKF := Lib.hid (Kept.set (X := w4.heap.size) (.of HB9.out) 3 (.slice A9 (ns.length + 1) c9))
          clear HX9 HV9 HB9 e3 f3 pl hHeld
          go_wp2
          go_meet
          rw [HWB.out]
          exact ⟨A9, c9, HXF, by rw [HN0.out]; exact HVF⟩
      case rest =>
        obtain ⟨A9, c9, HX8, HV8⟩ := hcut
        have hwaB : wa.drew.heap.size ≤ wc.heap.size := HX8.out.hB
        have HXc := Lib.hid HX8.out.drew.grow
        have HVc := Lib.hid (own_keep (w' := wc.drew) HV8.out (Below.refl _ _).drew)
        have hXa : w4.heap.size < wa.drew.heap.size := HX8.out.xB
        clear HX HX8 HV8
        have hkpos : 0 < kids.length := by have := HKN.out; omega
        go_upto_region 10 with fail
        obtain ⟨wd, hwd⟩ : ∃ wd, wc.drew = wd := ⟨_, rfl⟩
        rw [hwd] at HXc HVc
        have hwdB : wa.drew.heap.size ≤ wd.heap.size := by rw [← hwd]; exact hwaB
        have HWD := Lib.hid hwd
        clear hwd
        go_cut [] (fun wx => ∃ (K9 : Option Addr) (k9 : Nat) (css : List Value), Hid (XJ w w1.heap.size w4.heap.size wd.heap.size 6 f t ns kids A K ca kc [.int .i64 6, .bool f, .string t, .slice A9 (ns.length + 1) c9, .slice K9 (kids.length + 1) k9] wx) ∧ Hid (wx.ownsRow wa.drew.heap.size 9 1 (.slice A9 (ns.length + 1) c9) (ns.length + 1) (strs ns ++ [.string ns[0]])) ∧ Hid (wx.ownsRow wd.heap.size 26 5 (.slice K9 (kids.length + 1) k9) (kids.length + 1) css) ∧ Hid (∀ i (h : i < (kids ++ [kids[0]'(by omega)]).length), JsC wx (fun _ => True) (g5 css i) (kids ++ [kids[0]'(by omega)])[i]))
        case first =>
          obtain ⟨kb, ko, L, rfl, ⟨hkb, hkV, hkX⟩, hLl, hLc, hLk⟩ := HXc.out.c.flat (fun e => by rw [e] at hkpos; simp at hkpos)
          have h0 := hLk 0 hkpos
          obtain ⟨qk, qf, qt, qA, qn, qa, qK, qm, qc, hNW⟩ : ∃ qk qf qt qA qn qa qK qm qc, g5 L 0 = c5 qk qf qt qA qn qa qK qm qc := by
            generalize kids[0] = p at h0
            generalize g5 L 0 = q5 at h0
            cases h0 with | mk k f t ns kids A K ca kc => exact ⟨_, _, _, _, _, _, _, _, _, rfl⟩
          have hc0 : ∀ j u, (c5 qk qf qt qA qn qa qK qm qc)[j]? = some u → wd.cell? ⟨kb, ko + j, none⟩ = some u := fun j u hu => by
            have hj : j < 5 := (List.getElem?_eq_some_iff.1 hu).1
            rw [← hNW, g5_get hj, Nat.zero_mul, Nat.zero_add] at hu
            exact hLc j u hu
          have hv4 := HXc.out.o.cell 4
          simp only [c5, List.getElem?_cons_zero, List.getElem?_cons_succ] at hv4
          have HS : Hid (∀ W, Kept wd.heap.size w4.heap.size wd W → W.cell? ⟨w1.heap.size, 4, none⟩ = some (.slice (some ⟨kb, ko, none⟩) kids.length kc) ∧ W.cell? ⟨kb, ko, none⟩ = some (.int .i64 qk) ∧ W.cell? ⟨kb, ko + 1, none⟩ = some (.bool qf) ∧ W.cell? ⟨kb, ko + 2, none⟩ = some (.string qt) ∧ W.cell? ⟨kb, ko + 3, none⟩ = some (.slice qA qn qa) ∧ W.cell? ⟨kb, ko + 4, none⟩ = some (.slice qK qm qc)) :=
            fun W h => ⟨h.cell hv4 HXc.out.vB HXc.out.hne, h.cell (hc0 0 _ rfl) hkb hkX, h.cell (hc0 1 _ rfl) hkb hkX, h.cell (hc0 2 _ rfl) hkb hkX, h.cell (hc0 3 _ rfl) hkb hkX, h.cell (hc0 4 _ rfl) hkb hkX⟩
          have HLL : Hid (L.length = kids.length * 5 ∧ (∀ u ∈ L, u.oneCell' = true) ∧ ∀ W, Kept wd.heap.size w4.heap.size wd W → ∀ j u, L[j]? = some u → W.cell? ((⟨kb, ko, none⟩ : Addr).add j) = some u) := by
            refine ⟨hLl, fun u hu => ?_, fun W h j u hu => ?_⟩
            · obtain ⟨q, hq, rfl⟩ := List.getElem_of_mem hu
              have h1 : q / 5 < kids.length := by omega
              refine (hLk (q / 5) h1).ones _ (List.mem_of_getElem? (i := q % 5) ?_)
              rw [g5_get (by omega), show q / 5 * 5 + q % 5 = q by omega]
              exact List.getElem?_eq_getElem hq
            · rw [add_at]
              exact h.cell (hLc j u hu) hkb hkX
          have HNO : Hid (∀ u ∈ ([.int .i64 qk, .bool qf, .string qt, .slice qA qn qa, .slice qK qm qc] : List Value), u.oneCell' = true) := fun u hu => by
            simp at hu
            rcases hu with rfl | rfl | rfl | rfl | rfl <;> rfl
          have HLK : Hid (∀ W, Kept wd.heap.size w4.heap.size wd W → ∀ i (h : i < (kids ++ [kids[0]]).length), JsC W (fun _ => True) (g5 (L ++ [.int .i64 qk, .bool qf, .string qt, .slice qA qn qa, .slice qK qm qc]) i) (kids ++ [kids[0]])[i]) := fun W h i hi => by
            have mv : ∀ {c : List Value} {p : Js}, JsC wd (fun b => b < wd.heap.size ∧ b ≠ w1.heap.size ∧ b ≠ w4.heap.size) c p → JsC W (fun _ => True) c p := fun hj => hj.mv' fun b hb _ => ⟨h b hb.1 hb.2.2, trivial⟩
            by_cases hlt : i < kids.length
            · rw [g5_app_left (by rw [hLl]; omega), List.getElem_append_left hlt]
              exact mv (hLk i hlt)
            · have hi2 : i = kids.length := by simp at hi; omega
              subst hi2
              rw [g5_app_right (n := kids.length) hLl (Nat.le_refl _), List.getElem_append_right (Nat.le_refl _)]
              simp only [Nat.sub_self, List.getElem_cons_zero]
              have h2 := mv h0
              rw [hNW] at h2
              have e : g5 [.int .i64 qk, .bool qf, .string qt, .slice qA qn qa, .slice qK qm qc] 0 = c5 qk qf qt qA qn qa qK qm qc := g5_one rfl
              rw [e]; exact h2
          have HBwd : Hid (Below wd.heap.size wd wd) := Below.refl _ _
          have HX := HXc
          clear hkb hkV hkX hLl hLc hLk h0 hNW hc0 hv4 HXc
          refine wp_region_held_drew (S := (fun X => X.cell? ⟨w1.heap.size, 4, none⟩ = some (.slice (some ⟨kb, ko, none⟩) kids.length kc) ∧ X.cell? ⟨kb, ko, none⟩ = some (.int .i64 qk) ∧ X.cell? ⟨kb, ko + 1, none⟩ = some (.bool qf) ∧ X.cell? ⟨kb, ko + 2, none⟩ = some (.string qt) ∧ X.cell? ⟨kb, ko + 3, none⟩ = some (.slice qA qn qa) ∧ X.cell? ⟨kb, ko + 4, none⟩ = some (.slice qK qm qc))) (by kernel_rfl) ?_ (fun hHeld => ?_)
          · rw [HWD.out]; exact HS.out _ (.of (Below.refl _ _))
          rw [HWD.out] at hHeld ⊢
          (first
            | (refine held_take (i := 1) (v := ?_) rfl (by kernel_rfl) (by kernel_rfl) (by kernel_rfl) (fun _ _ _ h => h) (Or.inl ⟨rfl, ?_⟩) (by assumption) ?_; rotate_left; (intro X hSw; (try dsimp only at hSw); (go_simp <;> with_reducible rfl)))
            | (refine held_take (i := 1) (v := undef) rfl (by kernel_rfl) (by kernel_rfl) (by kernel_rfl) (fun _ _ _ h => h) (Or.inr ⟨rfl, rfl⟩) (by assumption) ?_)); simp only [Act.put, List.setIfInBounds_toArray, List.set_cons_zero, List.set_cons_succ]
          (first
            | (refine held_take (i := 2) (v := ?_) rfl (by kernel_rfl) (by kernel_rfl) (by kernel_rfl) (fun _ _ _ h => h) (Or.inl ⟨rfl, ?_⟩) (by assumption) ?_; rotate_left; (intro X hSw; (try dsimp only at hSw); (go_simp <;> with_reducible rfl)))
            | (refine held_take (i := 2) (v := undef) rfl (by kernel_rfl) (by kernel_rfl) (by kernel_rfl) (fun _ _ _ h => h) (Or.inr ⟨rfl, rfl⟩) (by assumption) ?_)); simp only [Act.put, List.setIfInBounds_toArray, List.set_cons_zero, List.set_cons_succ]
          (first
            | (refine held_take (i := 4) (v := ?_) rfl (by kernel_rfl) (by kernel_rfl) (by kernel_rfl) (fun _ _ _ h => h) (Or.inl ⟨rfl, ?_⟩) (by assumption) ?_; rotate_left; (intro X hSw; (try dsimp only at hSw); (go_simp <;> with_reducible rfl)))
            | (refine held_take (i := 4) (v := undef) rfl (by kernel_rfl) (by kernel_rfl) (by kernel_rfl) (fun _ _ _ h => h) (Or.inr ⟨rfl, rfl⟩) (by assumption) ?_)); simp only [Act.put, List.setIfInBounds_toArray, List.set_cons_zero, List.set_cons_succ]
          (first
            | (refine held_take (i := 5) (v := ?_) rfl (by kernel_rfl) (by kernel_rfl) (by kernel_rfl) (fun _ _ _ h => h) (Or.inl ⟨rfl, ?_⟩) (by assumption) ?_; rotate_left; (intro X hSw; (try dsimp only at hSw); (go_simp <;> with_reducible rfl)))
            | (refine held_take (i := 5) (v := undef) rfl (by kernel_rfl) (by kernel_rfl) (by kernel_rfl) (fun _ _ _ h => h) (Or.inr ⟨rfl, rfl⟩) (by assumption) ?_)); simp only [Act.put, List.setIfInBounds_toArray, List.set_cons_zero, List.set_cons_succ]
          (first
            | (refine held_take (i := 6) (v := ?_) rfl (by kernel_rfl) (by kernel_rfl) (by kernel_rfl) (fun _ _ _ h => h) (Or.inl ⟨rfl, ?_⟩) (by assumption) ?_; rotate_left; (intro X hSw; (try dsimp only at hSw); (go_simp <;> with_reducible rfl)))
            | (refine held_take (i := 6) (v := undef) rfl (by kernel_rfl) (by kernel_rfl) (by kernel_rfl) (fun _ _ _ h => h) (Or.inr ⟨rfl, rfl⟩) (by assumption) ?_)); simp only [Act.put, List.setIfInBounds_toArray, List.set_cons_zero, List.set_cons_succ]
          (first
            | (refine held_take (i := 7) (v := ?_) rfl (by kernel_rfl) (by kernel_rfl) (by kernel_rfl) (fun _ _ _ h => h) (Or.inl ⟨rfl, ?_⟩) (by assumption) ?_; rotate_left; (intro X hSw; (try dsimp only at hSw); (go_simp <;> with_reducible rfl)))
            | (refine held_take (i := 7) (v := undef) rfl (by kernel_rfl) (by kernel_rfl) (by kernel_rfl) (fun _ _ _ h => h) (Or.inr ⟨rfl, rfl⟩) (by assumption) ?_)); simp only [Act.put, List.setIfInBounds_toArray, List.set_cons_zero, List.set_cons_succ]
          refine wpAnyH_ready (rs := [0, 8]) (by kernel_rfl) (by simp) ?_
          refine AllReadyH.cons rfl (fun K hK => ?_) (AllReadyH.cons rfl (fun K hK => ?_) AllReadyH.nil)
          · -- 0
            go_simp
            have HBwx : Hid (Below wd.heap.size wd (wd.alloc (.cells #[] 26))) := HBwd.out.alloc HBwd.out.size _
            have HE : Hid ((wd.alloc (.cells #[] 26)).ownsRow wd.heap.size 26 5 (.slice (some ⟨wd.heap.size, 0, none⟩) 0 0) 0 []) := own_new wd 26 5 wd.heap.size 0 [] HBwd.out.size (by simp) (by decide)
            have hz0 : wd.heap.size < (wd.alloc (.cells #[] 26)).heap.size := by simp
            generalize wd.alloc (.cells #[] 26) = wx at *
            clear hHeld
            refine hK.out _ _ ?_ (fun hHeld => ?_)
            · exact HS.out _ (.of HBwx.out)
            clear hK K
            refine wpAnyH_ready (rs := [3, 8]) (by kernel_rfl) (by simp) ?_
            refine AllReadyH.cons rfl (fun K hK => ?_) (AllReadyH.cons rfl (fun K hK => ?_) AllReadyH.nil)
            · -- 0 3 8
              refine step_own_v wx rfl _ _ 24 rfl wd.heap.size 26 i0 (.agg #[.int .i64 0, .bool false, .string ⟨#[]⟩, .slice none 0 0, .slice none 0 0]) 5 80 Tryd.underlying24 HIJ.out.1 HIJ.out.2.1 HIJ.out.2.2.1 HIJ.out.2.2.2 rfl (by decide) _ _ _ rfl HE.out ⟨kb, ko, none⟩ kids.length kc L rfl HLL.out.1 (HLL.out.2.2 _ (.of HBwx.out)) HLL.out.2.1 ?d3 ?d4 ?d5 ?_
              case d3 => unfold maxLen; omega
              case d4 => omega
              case d5 => exact HBwx.out.size
              intro v3 wy hown hgrow hat
              have HBwy := Lib.hid (HBwx.out.grown hgrow HBwx.out.size (fun q hq => (HE.out.lt q hq).1))
              have HV : Hid (wy.ownsRow wd.heap.size 26 5 v3 kids.length L) := by have h := hown; rw [Nat.zero_add, List.nil_append] at h; exact h
              have hsz3 := hgrow.size
              clear hown hgrow hat HE hHeld
              refine hK.out _ _ ?_ (fun hHeld => ?_)
              · exact HS.out _ (.of HBwy.out)
              clear hK K
              refine wpAnyH_ready (rs := [8]) (by kernel_rfl) (by simp) ?_
              refine AllReadyH.cons rfl (fun K hK => ?_) AllReadyH.nil
              go_simp
              have HBwz : Hid (Below wd.heap.size wd (wy.alloc (.cells #[.int .i64 qk, .bool qf, .string qt, .slice qA qn qa, .slice qK qm qc] 26))) := HBwy.out.alloc HBwy.out.size _
              have HN8 : Hid (Own (wy.alloc (.cells #[.int .i64 qk, .bool qf, .string qt, .slice qA qn qa, .slice qK qm qc] 26)) wy.heap.size 26 [.int .i64 qk, .bool qf, .string qt, .slice qA qn qa, .slice qK qm qc]) := Own.new wy 26 #[.int .i64 qk, .bool qf, .string qt, .slice qA qn qa, .slice qK qm qc]
              have hz8 : wy.heap.size < (wy.alloc (.cells #[.int .i64 qk, .bool qf, .string qt, .slice qA qn qa, .slice qK qm qc] 26)).heap.size := by simp
              have HV := Lib.hid (own_keep HV.out (below_box (w := wy) (.cells #[.int .i64 qk, .bool qf, .string qt, .slice qA qn qa, .slice qK qm qc] 26)))
              generalize wy.alloc (.cells #[.int .i64 qk, .bool qf, .string qt, .slice qA qn qa, .slice qK qm qc] 26) = wz at *
              clear hHeld
              refine hK.out _ _ ?_ (fun hHeld => ?_)
              · exact HS.out _ (.of HBwz.out)
              clear hK K
              refine wpAnyH_ready (rs := [9]) (by kernel_rfl) (by simp) ?_
              refine AllReadyH.cons rfl (fun K hK => ?_) AllReadyH.nil
              refine step_own_v wz rfl _ _ 24 rfl wd.heap.size 26 i0 (.agg #[.int .i64 0, .bool false, .string ⟨#[]⟩, .slice none 0 0, .slice none 0 0]) 5 80 Tryd.underlying24 HIJ.out.1 HIJ.out.2.1 HIJ.out.2.2.1 HIJ.out.2.2.2 rfl (by decide) _ _ _ rfl HV.out ⟨wy.heap.size, 0, none⟩ 1 1 [.int .i64 qk, .bool qf, .string qt, .slice qA qn qa, .slice qK qm qc] rfl rfl (own_news HN8.out) HNO.out ?d3 ?d4 ?d5 ?_
              case d3 => unfold maxLen; omega
              case d4 => omega
              case d5 => exact HBwz.out.size
              intro v9 w9 hown hgrow hat
              have HB9 := Lib.hid (HBwz.out.grown hgrow HBwz.out.size (fun q hq => (HV.out.lt q hq).1))
              obtain ⟨A10, c10, rfl⟩ := own_form hown
              have HV9 := Lib.hid hown
              clear hown hgrow hat HV HN8 hHeld
              refine hK.out _ _ ?_ (fun hHeld => ?_)
              · exact HS.out _ (.of HB9.out)
              clear hK K
              (first
                | (refine held_take (i := 10) (v := ?_) rfl (by kernel_rfl) (by kernel_rfl) (by kernel_rfl) (fun _ _ _ h => h) (Or.inl ⟨rfl, ?_⟩) (by assumption) ?_; rotate_left; (intro X hSw; (try dsimp only at hSw); (go_simp <;> with_reducible rfl)))
                | (refine held_take (i := 10) (v := undef) rfl (by kernel_rfl) (by kernel_rfl) (by kernel_rfl) (fun _ _ _ h => h) (Or.inr ⟨rfl, rfl⟩) (by assumption) ?_)); simp only [Act.put, List.setIfInBounds_toArray, List.set_cons_zero, List.set_cons_succ]
              refine wpAnyH_ready (rs := [11]) (by kernel_rfl) (by simp) ?_
              refine AllReadyH.cons rfl (fun K hK => ?_) AllReadyH.nil
              have HX9 := HX.out.upon HB9.out
              have e3 := HX9.x.cell 4
              simp only [c5, List.getElem?_cons_zero, List.getElem?_cons_succ, List.set_cons_zero, List.set_cons_succ] at e3
              have f3 := HX9.x.frozen 4
              have pl := HX9.x.lt
              clear hHeld
              go_simp
              refine hK.out _ _ ?_ (fun hHeld => ?_)
              · exact HS.out _ (.set (.of HB9.out) _ _)
              clear hK K
              refine wpAnyH_done (by kernel_rfl) ?_ _
              have HXF := Lib.hid (HX9.set 4 (.slice A10 (kids.length + 1) c10))
              have HVF := Lib.hid (own_far (p := ⟨w4.heap.size, 4, none⟩) HV9.out (fun q hq => by have := (HV9.out.lt q hq).1; have := HX.out.xB; show q ≠ w4.heap.size; omega) (.slice A10 (kids.length + 1) c10))
              have HKF := Lib.hid (Kept.set (X := w4.heap.size) (.of HB9.out) 4 (.slice A10 (kids.length + 1) c10))
              clear HX9 HV9 HB9 e3 f3 pl hHeld
              go_wp2
              go_meet
              exact ⟨A10, c10, _, HXF, Lib.hid ((own_same HVc.out fun q hq => HKF.out q (by have := (HVc.out.lt q hq).2; omega) (by have := (HVc.out.lt q hq).1; omega))), HVF, Lib.hid (HLK.out _ HKF.out)⟩
            · -- 0 8 3
              go_simp
              have HBwy : Hid (Below wd.heap.size wd (wx.alloc (.cells #[.int .i64 qk, .bool qf, .string qt, .slice qA qn qa, .slice qK qm qc] 26))) := HBwx.out.alloc HBwx.out.size _
              have HN8 : Hid (Own (wx.alloc (.cells #[.int .i64 qk, .bool qf, .string qt, .slice qA qn qa, .slice qK qm qc] 26)) wx.heap.size 26 [.int .i64 qk, .bool qf, .string qt, .slice qA qn qa, .slice qK qm qc]) := Own.new wx 26 #[.int .i64 qk, .bool qf, .string qt, .slice qA qn qa, .slice qK qm qc]
              have hz8 : wx.heap.size < (wx.alloc (.cells #[.int .i64 qk, .bool qf, .string qt, .slice qA qn qa, .slice qK qm qc] 26)).heap.size := by simp
              have HE := Lib.hid (own_keep HE.out (below_box (w := wx) (.cells #[.int .i64 qk, .bool qf, .string qt, .slice qA qn qa, .slice qK qm qc] 26)))
              generalize wx.alloc (.cells #[.int .i64 qk, .bool qf, .string qt, .slice qA qn qa, .slice qK qm qc] 26) = wy at *
              clear hHeld
              refine hK.out _ _ ?_ (fun hHeld => ?_)
              · exact HS.out _ (.of HBwy.out)
              clear hK K
              refine wpAnyH_ready (rs := [3]) (by kernel_rfl) (by simp) ?_
              refine AllReadyH.cons rfl (fun K hK => ?_) AllReadyH.nil
              refine step_own_v wy rfl _ _ 24 rfl wd.heap.size 26 i0 (.agg #[.int .i64 0, .bool false, .string ⟨#[]⟩, .slice none 0 0, .slice none 0 0]) 5 80 Tryd.underlying24 HIJ.out.1 HIJ.out.2.1 HIJ.out.2.2.1 HIJ.out.2.2.2 rfl (by decide) _ _ _ rfl HE.out ⟨kb, ko, none⟩ kids.length kc L rfl HLL.out.1 (HLL.out.2.2 _ (.of HBwy.out)) HLL.out.2.1 ?d3 ?d4 ?d5 ?_
              case d3 => unfold maxLen; omega
              case d4 => omega
              case d5 => exact HBwy.out.size
              intro v3 wz hown hgrow hat
              have HBwz := Lib.hid (HBwy.out.grown hgrow HBwy.out.size (fun q hq => (HE.out.lt q hq).1))
              have HN8 : Hid (Own wz wx.heap.size 26 [.int .i64 qk, .bool qf, .string qt, .slice qA qn qa, .slice qK qm qc]) := (hgrow.block _ HN8.out.lt (fun e => by have e2 : some wx.heap.size = some wd.heap.size := e; injection e2 with e2; omega)).trans HN8.out
              have HV : Hid (wz.ownsRow wd.heap.size 26 5 v3 kids.length L) := by have h := hown; rw [Nat.zero_add, List.nil_append] at h; exact h
              have hsz3 := hgrow.size
              clear hown hgrow hat HE hHeld
              refine hK.out _ _ ?_ (fun hHeld => ?_)
              · exact HS.out _ (.of HBwz.out)
              clear hK K
              refine wpAnyH_ready (rs := [9]) (by kernel_rfl) (by simp) ?_
              refine AllReadyH.cons rfl (fun K hK => ?_) AllReadyH.nil
              refine step_own_v wz rfl _ _ 24 rfl wd.heap.size 26 i0 (.agg #[.int .i64 0, .bool false, .string ⟨#[]⟩, .slice none 0 0, .slice none 0 0]) 5 80 Tryd.underlying24 HIJ.out.1 HIJ.out.2.1 HIJ.out.2.2.1 HIJ.out.2.2.2 rfl (by decide) _ _ _ rfl HV.out ⟨wx.heap.size, 0, none⟩ 1 1 [.int .i64 qk, .bool qf, .string qt, .slice qA qn qa, .slice qK qm qc] rfl rfl (own_news HN8.out) HNO.out ?d3 ?d4 ?d5 ?_
              case d3 => unfold maxLen; omega
              case d4 => omega
              case d5 => exact HBwz.out.size
              intro v9 w9 hown hgrow hat
              have HB9 := Lib.hid (HBwz.out.grown hgrow HBwz.out.size (fun q hq => (HV.out.lt q hq).1))
              obtain ⟨A10, c10, rfl⟩ := own_form hown
              have HV9 := Lib.hid hown
              clear hown hgrow hat HV HN8 hHeld
              refine hK.out _ _ ?_ (fun hHeld => ?_)
              · exact HS.out _ (.of HB9.out)
              clear hK K
              (first
                | (refine held_take (i := 10) (v := ?_) rfl (by kernel_rfl) (by kernel_rfl) (by kernel_rfl) (fun _ _ _ h => h) (Or.inl ⟨rfl, ?_⟩) (by assumption) ?_; rotate_left; (intro X hSw; (try dsimp only at hSw); (go_simp <;> with_reducible rfl)))
                | (refine held_take (i := 10) (v := undef) rfl (by kernel_rfl) (by kernel_rfl) (by kernel_rfl) (fun _ _ _ h => h) (Or.inr ⟨rfl, rfl⟩) (by assumption) ?_)); simp only [Act.put, List.setIfInBounds_toArray, List.set_cons_zero, List.set_cons_succ]
              refine wpAnyH_ready (rs := [11]) (by kernel_rfl) (by simp) ?_
              refine AllReadyH.cons rfl (fun K hK => ?_) AllReadyH.nil
              have HX9 := HX.out.upon HB9.out
              have e3 := HX9.x.cell 4
              simp only [c5, List.getElem?_cons_zero, List.getElem?_cons_succ, List.set_cons_zero, List.set_cons_succ] at e3
              have f3 := HX9.x.frozen 4
              have pl := HX9.x.lt
              clear hHeld
              go_simp
              refine hK.out _ _ ?_ (fun hHeld => ?_)
              · exact HS.out _ (.set (.of HB9.out) _ _)
              clear hK K
              refine wpAnyH_done (by kernel_rfl) ?_ _
              have HXF := Lib.hid (HX9.set 4 (.slice A10 (kids.length + 1) c10))
              have HVF := Lib.hid (own_far (p := ⟨w4.heap.size, 4, none⟩) HV9.out (fun q hq => by have := (HV9.out.lt q hq).1; have := HX.out.xB; show q ≠ w4.heap.size; omega) (.slice A10 (kids.length + 1) c10))
              have HKF := Lib.hid (Kept.set (X := w4.heap.size) (.of HB9.out) 4 (.slice A10 (kids.length + 1) c10))
              clear HX9 HV9 HB9 e3 f3 pl hHeld
              go_wp2
              go_meet
              exact ⟨A10, c10, _, HXF, Lib.hid ((own_same HVc.out fun q hq => HKF.out q (by have := (HVc.out.lt q hq).2; omega) (by have := (HVc.out.lt q hq).1; omega))), HVF, Lib.hid (HLK.out _ HKF.out)⟩
          · -- 8 0 3
            go_simp
            have HBwx : Hid (Below wd.heap.size wd (wd.alloc (.cells #[.int .i64 qk, .bool qf, .string qt, .slice qA qn qa, .slice qK qm qc] 26))) := HBwd.out.alloc HBwd.out.size _
            have HN8 : Hid (Own (wd.alloc (.cells #[.int .i64 qk, .bool qf, .string qt, .slice qA qn qa, .slice qK qm qc] 26)) wd.heap.size 26 [.int .i64 qk, .bool qf, .string qt, .slice qA qn qa, .slice qK qm qc]) := Own.new wd 26 #[.int .i64 qk, .bool qf, .string qt, .slice qA qn qa, .slice qK qm qc]
            have hz8 : wd.heap.size < (wd.alloc (.cells #[.int .i64 qk, .bool qf, .string qt, .slice qA qn qa, .slice qK qm qc] 26)).heap.size := by simp
            generalize wd.alloc (.cells #[.int .i64 qk, .bool qf, .string qt, .slice qA qn qa, .slice qK qm qc] 26) = wx at *
            clear hHeld
            refine hK.out _ _ ?_ (fun hHeld => ?_)
            · exact HS.out _ (.of HBwx.out)
            clear hK K
            refine wpAnyH_ready (rs := [0]) (by kernel_rfl) (by simp) ?_
            refine AllReadyH.cons rfl (fun K hK => ?_) AllReadyH.nil
            go_simp
            have HBwy : Hid (Below wd.heap.size wd (wx.alloc (.cells #[] 26))) := HBwx.out.alloc HBwx.out.size _
            have HE : Hid ((wx.alloc (.cells #[] 26)).ownsRow wd.heap.size 26 5 (.slice (some ⟨wx.heap.size, 0, none⟩) 0 0) 0 []) := own_new wx 26 5 wd.heap.size 0 [] HBwx.out.size (by simp) (by decide)
            have hz0 : wx.heap.size < (wx.alloc (.cells #[] 26)).heap.size := by simp
            have HN8 := Lib.hid (HN8.out.alloc (.cells #[] 26))
            generalize wx.alloc (.cells #[] 26) = wy at *
            clear hHeld
            refine hK.out _ _ ?_ (fun hHeld => ?_)
            · exact HS.out _ (.of HBwy.out)
            clear hK K
            refine wpAnyH_ready (rs := [3]) (by kernel_rfl) (by simp) ?_
            refine AllReadyH.cons rfl (fun K hK => ?_) AllReadyH.nil
            refine step_own_v wy rfl _ _ 24 rfl wd.heap.size 26 i0 (.agg #[.int .i64 0, .bool false, .string ⟨#[]⟩, .slice none 0 0, .slice none 0 0]) 5 80 Tryd.underlying24 HIJ.out.1 HIJ.out.2.1 HIJ.out.2.2.1 HIJ.out.2.2.2 rfl (by decide) _ _ _ rfl HE.out ⟨kb, ko, none⟩ kids.length kc L rfl HLL.out.1 (HLL.out.2.2 _ (.of HBwy.out)) HLL.out.2.1 ?d3 ?d4 ?d5 ?_
            case d3 => unfold maxLen; omega
            case d4 => omega
            case d5 => exact HBwy.out.size
            intro v3 wz hown hgrow hat
            have HBwz := Lib.hid (HBwy.out.grown hgrow HBwy.out.size (fun q hq => (HE.out.lt q hq).1))
            have HN8 : Hid (Own wz wd.heap.size 26 [.int .i64 qk, .bool qf, .string qt, .slice qA qn qa, .slice qK qm qc]) := (hgrow.block _ HN8.out.lt (fun e => by have e2 : some wd.heap.size = some wx.heap.size := e; injection e2 with e2; omega)).trans HN8.out
            have HV : Hid (wz.ownsRow wd.heap.size 26 5 v3 kids.length L) := by have h := hown; rw [Nat.zero_add, List.nil_append] at h; exact h
            have hsz3 := hgrow.size
            clear hown hgrow hat HE hHeld
            refine hK.out _ _ ?_ (fun hHeld => ?_)
            · exact HS.out _ (.of HBwz.out)
            clear hK K
            refine wpAnyH_ready (rs := [9]) (by kernel_rfl) (by simp) ?_
            refine AllReadyH.cons rfl (fun K hK => ?_) AllReadyH.nil
            refine step_own_v wz rfl _ _ 24 rfl wd.heap.size 26 i0 (.agg #[.int .i64 0, .bool false, .string ⟨#[]⟩, .slice none 0 0, .slice none 0 0]) 5 80 Tryd.underlying24 HIJ.out.1 HIJ.out.2.1 HIJ.out.2.2.1 HIJ.out.2.2.2 rfl (by decide) _ _ _ rfl HV.out ⟨wd.heap.size, 0, none⟩ 1 1 [.int .i64 qk, .bool qf, .string qt, .slice qA qn qa, .slice qK qm qc] rfl rfl (own_news HN8.out) HNO.out ?d3 ?d4 ?d5 ?_
            case d3 => unfold maxLen; omega
            case d4 => omega
            case d5 => exact HBwz.out.size
            intro v9 w9 hown hgrow hat
            have HB9 := Lib.hid (HBwz.out.grown hgrow HBwz.out.size (fun q hq => (HV.out.lt q hq).1))
            obtain ⟨A10, c10, rfl⟩ := own_form hown
            have HV9 := Lib.hid hown
            clear hown hgrow hat HV HN8 hHeld
            refine hK.out _ _ ?_ (fun hHeld => ?_)
            · exact HS.out _ (.of HB9.out)
            clear hK K
            (first
              | (refine held_take (i := 10) (v := ?_) rfl (by kernel_rfl) (by kernel_rfl) (by kernel_rfl) (fun _ _ _ h => h) (Or.inl ⟨rfl, ?_⟩) (by assumption) ?_; rotate_left; (intro X hSw; (try dsimp only at hSw); (go_simp <;> with_reducible rfl)))
              | (refine held_take (i := 10) (v := undef) rfl (by kernel_rfl) (by kernel_rfl) (by kernel_rfl) (fun _ _ _ h => h) (Or.inr ⟨rfl, rfl⟩) (by assumption) ?_)); simp only [Act.put, List.setIfInBounds_toArray, List.set_cons_zero, List.set_cons_succ]
            refine wpAnyH_ready (rs := [11]) (by kernel_rfl) (by simp) ?_
            refine AllReadyH.cons rfl (fun K hK => ?_) AllReadyH.nil
            have HX9 := HX.out.upon HB9.out
            have e3 := HX9.x.cell 4
            simp only [c5, List.getElem?_cons_zero, List.getElem?_cons_succ, List.set_cons_zero, List.set_cons_succ] at e3
            have f3 := HX9.x.frozen 4
            have pl := HX9.x.lt
            clear hHeld
            go_simp
            refine hK.out _ _ ?_ (fun hHeld => ?_)
            · exact HS.out _ (.set (.of HB9.out) _ _)
            clear hK K
            refine wpAnyH_done (by kernel_rfl) ?_ _
            have HXF := Lib.hid (HX9.set 4 (.slice A10 (kids.length + 1) c10))
            have HVF := Lib.hid (own_far (p := ⟨w4.heap.size, 4, none⟩) HV9.out (fun q hq => by have := (HV9.out.lt q hq).1; have := HX.out.xB; show q ≠ w4.heap.size; omega) (.slice A10 (kids.length + 1) c10))
            have HKF := Lib.hid (Kept.set (X := w4.heap.size) (.of HB9.out) 4 (.slice A10 (kids.length + 1) c10))
            clear HX9 HV9 HB9 e3 f3 pl hHeld
            go_wp2
            go_meet
            exact ⟨A10, c10, _, HXF, Lib.hid ((own_same HVc.out fun q hq => HKF.out q (by have := (HVc.out.lt q hq).2; omega) (by have := (HVc.out.lt q hq).1; omega))), HVF, Lib.hid (HLK.out _ HKF.out)⟩
        case rest =>
          obtain ⟨K9, k9, css, HX9, HV9, HK9, HKs⟩ := hcut
          have hkl : (kids ++ [kids[0]'hkpos]).length = kids.length + 1 := by simp
          have hnl : (ns ++ [ns[0]'hnpos]).length = ns.length + 1 := by simp
          have hjc : JsC wc (fun _ => True) (c5 6 f t A9 (ns ++ [ns[0]'hnpos]).length c9 K9 (kids ++ [kids[0]'hkpos]).length k9) (.mk 6 f t (ns ++ [ns[0]'hnpos]) (kids ++ [kids[0]'hkpos])) := by
            obtain ⟨g, cap, e, hge, _⟩ := own_some HK9.out (by omega)
            injection e with e1 e2 e3
            subst e1 e3
            have hl := HK9.out.1
            refine JsC.mk 6 f t (ns ++ [ns[0]'hnpos]) (kids ++ [kids[0]'hkpos]) A9 _ c9 k9 g 0 (g5 css) (own_rowN (by rw [strs_app]; exact HV9.out)) (fun _ _ _ => trivial) (by rw [hnl]; exact own_le HV9.out) (fun _ => ⟨rfl, trivial⟩) (fun i hi => g5_len (by rw [hl]; omega)) (fun i hi j u hu => ?_) HKs.out
            have hj : j < 5 := by
              have := (List.getElem?_eq_some_iff.1 hu).1
              rw [g5_len (by rw [hl]; omega)] at this
              exact this
            rw [g5_get hj] at hu
            rw [Nat.zero_add]
            exact own_cellN HK9.out _ u hu
          have hlim : LimJ 1048576 (.mk 6 f t (ns ++ [ns[0]'hnpos]) (kids ++ [kids[0]'hkpos])) := by
            cases HX9.out.l with
            | mk _ _ _ _ _ h1 h2 h3 h4 h5 =>
              have q1 := HJ.out.2.2.1
              rw [nodesJ_mk] at q1
              have q2 := nodesJ_len kids
              refine .mk 6 f t _ _ h1 (by rw [hnl]; have := HKN.out; omega) (fun n hn => ?_) (by rw [hkl]; omega) (fun p hp => ?_)
              · rcases List.mem_append.1 hn with h | h
                · exact h3 n h
                · simp at h; subst h; exact h3 _ (List.getElem_mem hnpos)
              · rcases List.mem_append.1 hp with h | h
                · exact h5 p h
                · simp at h; subst h; exact h5 _ (List.getElem_mem hkpos)
          have HNT := Lib.hid (not_twice (f := f) (t := t) (kids := kids ++ [kids[0]'hkpos]) hnpos)
          have HJC := Lib.hid hjc
          have HLI := Lib.hid hlim
          have HBX := Lib.hid HX9.out.b
          have hx := HX9.out.x
          rw [← hkl, ← hnl] at hx
          have HXX := Lib.hid hx
          have e0 := hx.cell 0
          have e1 := hx.cell 1
          have e2 := hx.cell 2
          have e3 := hx.cell 3
          have e4 := hx.cell 4
          simp only [List.getElem?_cons_zero, List.getElem?_cons_succ] at e0 e1 e2 e3 e4
          have pl := hx.lt
          clear hjc hlim hx hkl hnl HX9 HV9 HK9 HKs HXc HVc hwaB hwdB hXa HKN HJ
          generalize ns ++ [ns[0]'hnpos] = ns2 at *
          generalize kids ++ [kids[0]'hkpos] = kids2 at *
          go_wp2_with fail
          refine (implOk_any 6 f t ns2 kids2 A9 K9 c9 k9 0 wc HJC.out.jsV.1 HLI.out HJC.out.jsV.2).mono ?_
          rintro e w5 ⟨r, rfl, hr, hb⟩
          obtain rfl : r = false := by
            cases r
            · rfl
            · exact absurd (hr.1 rfl) HNT.out
          have HB5 := Lib.hid (HBX.out.trans (hb.mono HBX.out.size))
          have HJ5 := Lib.hid (HJC.out.mv fun b _ hl => hb.block b hl)
          have hx := HXX.out.keep hb
          clear e0 e1 e2 e3 e4 pl hr hb HJC HXX HBX
          have e0 := hx.cell 0
          have e1 := hx.cell 1
          have e2 := hx.cell 2
          have e3 := hx.cell 3
          have e4 := hx.cell 4
          simp only [List.getElem?_cons_zero, List.getElem?_cons_succ] at e0 e1 e2 e3 e4
          have pl := hx.lt
          clear hx
          go_wp2_with fail
          refine (implWrite_any 6 f t ns2 kids2 A9 K9 c9 k9 0 w5 HJ5.out.jsV.1 HLI.out HJ5.out.jsV.2).mono ?_
          rintro e w6 ⟨s, rfl, hs, hsn, hb⟩
          obtain rfl : s = ⟨#[]⟩ := bl_inj (hsn HNT.out)
          have HB6 := Lib.hid (HB5.out.trans (hb.mono HB5.out.size))
          have hne : (⟨#[]⟩ : ByteArray).toList.isEmpty = true := by rw [empty_iff]; rfl
          clear e0 e1 e2 e3 e4 pl hs hsn hb
          go_wp2
          go_ret
          exact ⟨rfl, HB6.out⟩
    · have HN := Lib.hid hk6
      clear hk6
      have hkn : (k != 6) = true ∨ ((ns.length : Int) == 0) = true := by
        by_cases h : k = 6
        · right
          rw [beq_iff_eq]
          have := HN.out
          by_cases h2 : ns.length = 0
          · omega
          · exact absurd ⟨h, h2⟩ this
        · left; simp [h]
      obtain ⟨p0, p1, p2, p3, p4⟩ := HL4.out.cells
      have pl := HL4.out.o.lt
      rcases hkn with hkn | hkn
      · go_wp2_with fail
        refine (specOk_any k f t ns kids A K ca kc 0 w4 HL4.out.v HL4.out.l).mono ?_
        rintro e w5 ⟨r3, rfl, hr3, hb⟩
        obtain rfl : r3 = true := hr3.2 HJ.out
        have HL5 := Lib.hid (HL4.out.keep hb)
        clear hb hr3 p0 p1 p2 p3 p4 pl
        go_wp2
        go_ret
        exact ⟨rfl, HL5.out.b⟩
      · by_cases h6 : k = 6
        · have h62 : (k != 6) = false := by simp [h6]
          clear h6
          go_wp2_with fail
          refine (specOk_any k f t ns kids A K ca kc 0 w4 HL4.out.v HL4.out.l).mono ?_
          rintro e w5 ⟨r3, rfl, hr3, hb⟩
          obtain rfl : r3 = true := hr3.2 HJ.out
          have HL5 := Lib.hid (HL4.out.keep hb)
          clear hb hr3 p0 p1 p2 p3 p4 pl
          go_wp2
          go_ret
          exact ⟨rfl, HL5.out.b⟩
        · have h62 : (k != 6) = true := by simp [h6]
          clear h6
          go_wp2_with fail
          refine (specOk_any k f t ns kids A K ca kc 0 w4 HL4.out.v HL4.out.l).mono ?_
          rintro e w5 ⟨r3, rfl, hr3, hb⟩
          obtain rfl : r3 = true := hr3.2 HJ.out
          have HL5 := Lib.hid (HL4.out.keep hb)
          clear hb hr3 p0 p1 p2 p3 p4 pl
          go_wp2
          go_ret
          exact ⟨rfl, HL5.out.b⟩
end Go.Proofs.YtmmafhibojipjaaDoor
