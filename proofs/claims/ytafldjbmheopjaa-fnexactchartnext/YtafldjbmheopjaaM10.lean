/- spec.CfgTrim. -/
import Derived.Test.YtafldjbmheopjaaM9
namespace Go.Proofs.Ytafldjbmheopjaa
open Go.RowKit
set_option linter.unusedVariables false

set_option maxRecDepth 100000 in
set_option maxHeartbeats 4000000 in
theorem specTrim_any (hd : Int) (ps : List Pd) (xs : List Pv) (a : Option Addr) (c : Nat) (w : World) (hxp : xs.map Pv.p = ps) (hxb : Bodies w xs) (hxr : Row w a (pvCells xs)) (hxk : ∀ x ∈ xs, x.K ≠ none) (hm : ps.length ≤ 1048576) (hs : Small ps) :
    Calls Try.prog 24 #[.agg #[.int .i64 hd, .slice a ps.length c]] w (TrimPost hd ps w) := by
  have hr : Pds w a ps := by rw [← hxp]; exact row_pds hxr hxb
  obtain ⟨i0, hi0, hz0, hz1, hz2⟩ := info_parts info46
  have HI := Lib.hid (And.intro hi0 (And.intro hz0 (And.intro hz1 hz2)))
  clear hi0 hz0 hz1 hz2
  obtain ⟨i1, hi0, hz0, hz1, hz2⟩ := info_parts info43
  have HI1 := Lib.hid (And.intro hi0 (And.intro hz0 (And.intro hz1 hz2)))
  clear hi0 hz0 hz1 hz2
  have HR := Lib.hid hr
  have HS := Lib.hid hs
  have HXP := Lib.hid hxp
  have HXB := Lib.hid hxb
  have HXR := Lib.hid hxr
  have HXK := Lib.hid hxk
  have hxl : xs.length = ps.length := by rw [← hxp]; simp
  clear hr hs hxp hxb hxr hxk
  go_enter Try.func24, Try.ntmps24
  go_wp2_with fail
  refine (specOk_any hd ps a c _ (HR.out.keep ((below_box _).alloc (by simp) _)) hm HS.out).mono ?_
  rintro e w1 ⟨rfl, hb⟩
  have hb1 : Below w.heap.size w w1 := ((below_box _).alloc (by simp) _).trans (hb.mono (by simp; omega))
  have k0 : w1.cell? ⟨w.heap.size, 0, none⟩ = some (.int .i64 hd) := cell_keep hb (by simp)
  have k1 : w1.cell? ⟨w.heap.size, 1, none⟩ = some (.slice a ps.length c) := cell_keep hb (by simp)
  have hO2 : Own w1 (w.heap.size + 1) 33 [.int .i64 0, .slice none 0 0] := by
    refine Own.keep ?_ hb
    have := Own.new (w.alloc (.cells #[.int .i64 hd, .slice a ps.length c] 33)) 33 #[.int .i64 0, .slice none 0 0]
    rw [World.size_alloc] at this
    exact this
  have kl := cell_lt k0
  simp only at kl
  clear hb
  cases hok : cfgOkB hd ps
  · have IT : Hid (IsTrim hd ps 0 []) := by show IsTrim hd ps 0 []; unfold IsTrim; rw [if_neg (by simp [hok])]; exact ⟨rfl, rfl⟩
    have z0 : w1.cell? ⟨w.heap.size + 1, 0, none⟩ = some (.int .i64 0) := by rw [hO2.cell]; rfl
    have z1 : w1.cell? ⟨w.heap.size + 1, 1, none⟩ = some (.slice none 0 0) := by rw [hO2.cell]; rfl
    have f0 := hO2.frozen 0
    have f1 := hO2.frozen 1
    have lt2 := hO2.lt
    go_wp2
    refine bodyPost_ret (v := .agg #[.int .i64 0, .slice none 0 0]) (by simp [results, Try.results24, go_sem, z0, z1]) rfl ⟨0, none, 0, [], rfl, IT.out, ⟨World.ownsRow_nil _ _ _ _, fun i h => by simp at h, fun i j h => by simp at h⟩, ?_⟩
    exact (hb1.setCell (by simp) _).setCell (by simp) _
  · have hd0 : 0 ≤ hd := by unfold cfgOkB at hok; simp at hok; omega
    obtain ⟨n, rfl⟩ : ∃ n : Nat, hd = n := ⟨hd.toNat, by omega⟩
    obtain ⟨hfit, hp4, hn0, hn2⟩ := ok_fit hok
    have HF := Lib.hid hfit
    have HOK := Lib.hid hok
    clear hfit hok hd0
    go_wp2_with fail
    refine (specLeast_any (n : Int) ps a c _ (HR.out.keep hb1) hm HS.out).mono ?_
    rintro e w2 ⟨L, A2, cap2, rfl, ho2, hIL, hb⟩
    obtain ⟨hgd, hLn⟩ := hIL.good HOK.out
    rw [hLn] at ho2 ⊢
    have hb2 : Below w.heap.size w w2 := hb1.trans (hb.mono hb1.size)
    replace k0 := cell_keep hb k0
    replace k1 := cell_keep hb k1
    replace hO2 := hO2.keep hb
    have HIL := Lib.hid hIL
    have HGD := Lib.hid hgd
    have HLN := Lib.hid hLn
    have hlw2 := cell_lt k0
    simp only at hlw2
    have lw2 := hO2.lt
    have HL2 := Lib.hid (own_row ho2)
    have HK0 := Lib.hid k0
    have HK1 := Lib.hid k1
    have HO2 := Lib.hid hO2
    have HB2 := Lib.hid hb2
    have HRW := Lib.hid (HR.out.keep hb2)
    clear hb hb1 hIL hgd hLn ho2 hO2 hb2
    have hmk := run_make_row' (P := Try.prog) 42 4 (.bool false) 1 Try.underlying42 info4 rfl .i64 .i64 n (by omega) (by omega)
    have hn0' : (0 : Int) < (n : Int) := by omega
    have HS0 : Hid (FS w2 w2.heap.size ((List.replicate n false).set 0 true) (w2.alloc (.cells ((madeCells #[.bool false] n).setIfInBounds 0 (.bool true)) 4))) := by
      refine ⟨?_, below_box _, Nat.le_refl _⟩
      have := Own.new w2 4 ((madeCells #[.bool false] n).setIfInBounds 0 (.bool true))
      rw [Array.toList_setIfInBounds, toList_madeCells_one] at this
      rw [← bools_set]
      simpa [bools] using this
    have HN0 : Hid (Snd n (ps.filter (termB L)) ((List.replicate n false).set 0 true)) := Snd.start hn0
    have hmc : (madeCells #[.bool false] n)[0]? = some (.bool false) := by
      rw [← Array.getElem?_toList, toList_madeCells_one, List.getElem?_replicate, if_pos (by omega)]
    go_wp2
    generalize w2.alloc (.cells ((madeCells #[.bool false] n).setIfInBounds 0 (.bool true)) 4) = W0 at *
    clear hmk hmc k0 k1
    go_loopw [5] (fun ag wr => ∃ (ab : Bool) (N : List Bool), ag = .bool ab ∧ Hid (FS w2 w2.heap.size N wr) ∧ Hid (Snd n (ps.filter (termB L)) N) ∧ Hid (ab = false → ∀ p ∈ ps.filter (termB L), fl N p.head = true → Cov N p)) (fun ag wr => cntF (readN w2.heap.size n wr) + bN ag)
    case atStart => exact ⟨true, _, rfl, HS0, HN0, fun h => by cases h⟩
    case round =>
      clear HS0 HN0
      obtain ⟨ab, N, rfl, HS1, HN1, HST⟩ := hrel
      have HRD : Hid (readN w2.heap.size n wr = N) := by show _ = _; rw [← HN1.out.l]; exact HS1.out.read
      cases ab
      · rename World => wz
        have HNeed : Hid (IsNeed n (ps.filter (termB L)) N) := ⟨HN1.out.l, HN1.out.z, HN1.out.s, HST.out rfl⟩
        have k0 := cell_keep HS1.out.b HK0.out
        have k1 := cell_keep HS1.out.b HK1.out
        have hb3 : Below w.heap.size w wz := HB2.out.trans (HS1.out.b.mono HB2.out.size)
        have HB3 := Lib.hid hb3
        have HO3 := Lib.hid (HO2.out.keep HS1.out.b)
        have HL3 := Lib.hid (HL2.out.keep HS1.out.b)
        have HF3 := Lib.hid HS1.out.o
        have HK13 := Lib.hid k1
        have kl3 := cell_lt k0
        simp only at kl3
        have HQ0 : Hid (QS wz wz.heap.size n none 0 [] (wz.alloc (.cells #[.int .i64 (n : Int), .slice none 0 0] 33))) :=
          ⟨⟨World.ownsRow_nil _ _ _ _, fun i h => by simp at h, fun i j h => by simp at h⟩, Own.new wz 33 #[.int .i64 (n : Int), .slice none 0 0], below_box _, Nat.le_refl _⟩
        clear HST hb3 HS1
        go_wp2
        generalize wz.alloc (.cells #[.int .i64 (n : Int), .slice none 0 0] 33) = W1 at *
        clear k0 k1
        go_loopw [10] (fun iv wq => ∃ i : Nat, i ≤ ps.length ∧ iv = .int .i64 i ∧ ∃ A cap zs, Hid (QS wz wz.heap.size n A cap zs wq) ∧ Hid (zs.map Pv.p = ((ps.take i).filter (termB L)).filter (fun p => fl N p.head))) (fun iv _ => ps.length - (intOf iv).toNat)
        case atStart => exact ⟨0, Nat.zero_le _, rfl, none, 0, [], HQ0, rfl⟩
        case round =>
          clear HQ0
          obtain ⟨i, him, rfl, A, cap, zs, HQ, HZ⟩ := hrel
          have k1 := cell_keep HQ.out.b HK13.out
          have kl4 := cell_lt k1
          simp only at kl4
          by_cases hlt : i < ps.length
          · have hlt' : (i : Int) < (ps.length : Int) := by omega
            have hix : i < xs.length := by omega
            have hpl := pvCells_length xs
            obtain ⟨b, off, rfl, c0⟩ := ((HXR.out.keep HB3.out).keep HQ.out.b).at_ (k := i * 2) (by omega)
            obtain ⟨b', off', e, c1⟩ := ((HXR.out.keep HB3.out).keep HQ.out.b).at_ (k := i * 2 + 1) (by omega)
            injection e with e
            injection e with e1 e2
            subst e1 e2
            obtain ⟨g0, g1⟩ := pvCells_get xs i hix
            rw [List.getElem?_eq_getElem (by omega)] at g0 g1
            injection g0 with g0
            injection g1 with g1
            rw [g0] at c0
            rw [g1] at c1
            unfold Pv.sl at c1
            rw [← Nat.add_assoc] at c1
            have hxm := List.getElem_mem hix
            have HPM : Hid (xs[i].p ∈ ps) := by show _ ∈ _; rw [← HXP.out]; exact List.mem_map_of_mem hxm
            have HKs := Lib.hid (HXB.out _ hxm)
            have hkn := HXK.out _ hxm
            have HTK : Hid (ps.take (i + 1) = ps.take i ++ [xs[i].p]) := by
              show _ = _
              rw [List.take_succ_eq_append_getElem hlt]
              congr 2
              have h := HXP.out
              simp [← h]
            clear g0 g1 hpl hxm
            generalize xs[i] = xi at *
            obtain ⟨p, K, kc⟩ := xi
            simp only at *
            obtain ⟨ad, rfl⟩ := Option.ne_none_iff_exists'.1 hkn
            clear hkn
            obtain ⟨p0, p1, p160, pin⟩ := HF.out p HPM.out
            have HB := Lib.hid pin
            clear pin
            obtain ⟨y, hy⟩ : ∃ y : Nat, p.head = y := ⟨p.head.toNat, by omega⟩
            have HY := Lib.hid hy
            have hyn : y < n := by omega
            have hyn' : (y : Int) < (n : Int) := by omega
            rw [hy] at c0
            have HFq := Lib.hid (HF3.out.keep HQ.out.b)
            have hfl := HFq.out.flag (k := (y : Int)) (by omega) (by rw [HNeed.out.l]; omega)
            simp only [Int.toNat_natCast] at hfl
            have hfb := HFq.out.lt
            have HQA := Lib.hid (HQ.out.alloc (.cells #[.int .i64 (y : Nat), .slice (some ad) p.body.length kc] 57))
            have HNO : Hid (¬ (termB L p = true ∧ fl N p.head = true) → zs.map Pv.p = ((ps.take (i + 1)).filter (termB L)).filter (fun p => fl N p.head)) := fun h => by
              rw [HTK.out, List.filter_append, List.filter_append, ← HZ.out]
              cases h1 : termB L p <;> cases h2 : fl N p.head <;> simp_all
            have HYES : Hid (termB L p = true → fl N p.head = true → zs.map Pv.p ++ [p] = ((ps.take (i + 1)).filter (termB L)).filter (fun p => fl N p.head)) := fun h1 h2 => by
              rw [HTK.out, List.filter_append, List.filter_append, ← HZ.out]
              simp [h1, h2]
            clear hy p0 p1
            cases hq : fl N (y : Int)
            · rw [hq] at hfl
              have HZ2 := Lib.hid (HNO.out (fun h => by rw [HY.out, hq] at h; cases h.2))
              clear HNO HYES HQ hq
              go_wp2
              go_roundw
              case rel => exact ⟨i + 1, by omega, by go_num, A, cap, zs, HQA, HZ2⟩
              case measure => simp [intOf]; omega
            · rw [hq] at hfl
              have HQf := Lib.hid hq
              have hbA : Below w.heap.size w (wr.alloc (.cells #[.int .i64 (y : Nat), .slice (some ad) p.body.length kc] 57)) := HB3.out.trans (HQA.out.b.mono HB3.out.size)
              have HLB := Lib.hid (l3Body_n n p.body L (some ad) kc A2 cap2 (wr.alloc (.cells #[.int .i64 (y : Nat), .slice (some ad) p.body.length kc] 57)) (HKs.out.keep hbA) (HL3.out.keep HQA.out.b) HLN.out ⟨p160, HB.out⟩ HGD.out hn2)
              clear hq hbA
              go_wp2_with fail
              refine HLB.out.mono ?_
              rintro e w3 ⟨rfl, hbC⟩
              have HQB := Lib.hid (HQA.out.keep hbC)
              have b0 : w3.cell? ⟨wr.heap.size, 0, none⟩ = some (.int .i64 (y : Nat)) := cell_keep hbC (by simp)
              have b1 : w3.cell? ⟨wr.heap.size, 1, none⟩ = some (.slice (some ad) p.body.length kc) := cell_keep hbC (by simp)
              have HPB : Hid (∀ bk, (Value.slice A zs.length cap).ownBlock = some bk → bk ≠ wr.heap.size) := fun bk hk => by have := (HQ.out.g.o.lt bk hk).2; omega
              have hPZ : wz.heap.size < wr.heap.size := HQ.out.o.lt
              have hpl := cell_lt b0
              simp only at hpl
              have hT : termB L p = decide (0 ≤ sumOf L p.body) := rfl
              have hzb := sumOf_bound L p.body p160
              generalize sumOf L p.body = z at *
              have HT := Lib.hid hT
              clear hT hbC HQA HLB hfl hfb HQ c0 c1 HFq
              by_cases hz : z < 0
              · have HZ2 := Lib.hid (HNO.out (fun h => by have := h.1; rw [HT.out] at this; simp at this; omega))
                have hz' : ¬ (0 : Int) ≤ z := by omega
                clear HNO HYES
                go_wp2
                go_roundw
                case rel => exact ⟨i + 1, by omega, by go_num, A, cap, zs, HQB, HZ2⟩
                case measure => simp [intOf]; omega
              · have hz' : (0 : Int) ≤ z := by omega
                have HZ2 := Lib.hid (HYES.out (by rw [HT.out]; simp; omega) (by rw [HY.out]; exact HQf.out))
                have hzl : zs.length ≤ 400 := by
                  have h1 : zs.length = (zs.map Pv.p).length := by simp
                  rw [h1, HZ.out]
                  have h2 := List.length_filter_le (fun p => fl N p.head) ((ps.take i).filter (termB L))
                  have h3 := List.length_filter_le (termB L) (ps.take i)
                  have h4 := List.length_take_le i ps
                  omega
                clear HNO HYES HZ HT hzb
                generalize wr.heap.size = P at *
                have HQ := HQB.out
                clear HQB
                go_wp2
                --BEGIN26
                refine wp_region_held_drew (S := fun W => W.cell? ⟨P, 0, none⟩ = some (.int .i64 (y : Nat)) ∧ W.cell? ⟨P, 1, none⟩ = some (.slice (some ad) p.body.length kc)) (by kernel_rfl) ?_ (fun hHeld => ?_)
                · exact ⟨b0, b1⟩
                (first
                  | (refine held_take (i := 0) (v := ?_) rfl (by kernel_rfl) (by kernel_rfl) (by kernel_rfl) (fun _ _ _ h => h) (Or.inl ⟨rfl, ?_⟩) (by assumption) ?_; rotate_left; (intro X hSw; (try dsimp only at hSw); (go_simp <;> with_reducible rfl)))
                  | (refine held_take (i := 0) (v := undef) rfl (by kernel_rfl) (by kernel_rfl) (by kernel_rfl) (fun _ _ _ h => h) (Or.inr ⟨rfl, rfl⟩) (by assumption) ?_)); simp only [Act.put, List.setIfInBounds_toArray, List.set_cons_zero, List.set_cons_succ]
                (first
                  | (refine held_take (i := 2) (v := ?_) rfl (by kernel_rfl) (by kernel_rfl) (by kernel_rfl) (fun _ _ _ h => h) (Or.inl ⟨rfl, ?_⟩) (by assumption) ?_; rotate_left; (intro X hSw; (try dsimp only at hSw); (go_simp <;> with_reducible rfl)))
                  | (refine held_take (i := 2) (v := undef) rfl (by kernel_rfl) (by kernel_rfl) (by kernel_rfl) (fun _ _ _ h => h) (Or.inr ⟨rfl, rfl⟩) (by assumption) ?_)); simp only [Act.put, List.setIfInBounds_toArray, List.set_cons_zero, List.set_cons_succ]
                (first
                  | (refine held_take (i := 3) (v := ?_) rfl (by kernel_rfl) (by kernel_rfl) (by kernel_rfl) (fun _ _ _ h => h) (Or.inl ⟨rfl, ?_⟩) (by assumption) ?_; rotate_left; (intro X hSw; (try dsimp only at hSw); (go_simp <;> with_reducible rfl)))
                  | (refine held_take (i := 3) (v := undef) rfl (by kernel_rfl) (by kernel_rfl) (by kernel_rfl) (fun _ _ _ h => h) (Or.inr ⟨rfl, rfl⟩) (by assumption) ?_)); simp only [Act.put, List.setIfInBounds_toArray, List.set_cons_zero, List.set_cons_succ]
                (first
                  | (refine held_take (i := 5) (v := ?_) rfl (by kernel_rfl) (by kernel_rfl) (by kernel_rfl) (fun _ _ _ h => h) (Or.inl ⟨rfl, ?_⟩) (by assumption) ?_; rotate_left; (intro X hSw; (try dsimp only at hSw); (go_simp <;> with_reducible rfl)))
                  | (refine held_take (i := 5) (v := undef) rfl (by kernel_rfl) (by kernel_rfl) (by kernel_rfl) (fun _ _ _ h => h) (Or.inr ⟨rfl, rfl⟩) (by assumption) ?_)); simp only [Act.put, List.setIfInBounds_toArray, List.set_cons_zero, List.set_cons_succ]
                (first
                  | (refine held_take (i := 6) (v := ?_) rfl (by kernel_rfl) (by kernel_rfl) (by kernel_rfl) (fun _ _ _ h => h) (Or.inl ⟨rfl, ?_⟩) (by assumption) ?_; rotate_left; (intro X hSw; (try dsimp only at hSw); (go_simp <;> with_reducible rfl)))
                  | (refine held_take (i := 6) (v := undef) rfl (by kernel_rfl) (by kernel_rfl) (by kernel_rfl) (fun _ _ _ h => h) (Or.inr ⟨rfl, rfl⟩) (by assumption) ?_)); simp only [Act.put, List.setIfInBounds_toArray, List.set_cons_zero, List.set_cons_succ]
                refine wpAnyH_ready (rs := [1, 4]) (by kernel_rfl) (by simp) ?_
                refine AllReadyH.cons rfl (fun K hK => ?_) (AllReadyH.cons rfl (fun K hK => ?_) AllReadyH.nil)
                · replace HQ := HQ.drew
                  have b0 : w3.drew.cell? ⟨P, 0, none⟩ = some (.int .i64 (y : Nat)) := b0
                  have b1 : w3.drew.cell? ⟨P, 1, none⟩ = some (.slice (some ad) p.body.length kc) := b1
                  generalize w3.drew = x1 at HQ b0 b1 hK ⊢
                  have cq := HQ.cell
                  go_simp
                  refine hK.out _ _ ?_ (fun hHeld => ?_)
                  · exact ⟨b0, b1⟩
                  clear hK K cq
                  refine wpAnyH_ready (rs := [4]) (by kernel_rfl) (by simp) ?_
                  refine AllReadyH.cons rfl (fun K hK => ?_) AllReadyH.nil
                  have E := own_empty x1 68 3 x1.heap.size (Nat.le_refl _)
                  have hb4 : Below x1.heap.size x1 (x1.alloc (.cells #[] 68)) := below_box _
                  go_simp
                  refine hK.out _ _ ?_ (fun hHeld => ?_)
                  · exact ⟨cell_alloc b0 _, cell_alloc b1 _⟩
                  clear hK K
                  generalize x1.alloc (.cells #[] 68) = x2 at E hb4 hHeld ⊢
                  refine wpAnyH_ready (rs := [7]) (by kernel_rfl) (by simp) ?_
                  refine AllReadyH.cons rfl (fun K hK => ?_) AllReadyH.nil
                  have hbX : Below w.heap.size w x2 := HB3.out.trans ((HQ.b.trans (hb4.mono HQ.b.size)).mono HB3.out.size)
                  refine step_own_at x2 rfl _ _ 55 rfl x1.heap.size 68 i0 (.agg #[.int .i64 0, .int .i64 0, .int .i64 0]) 3 24 Try.underlying55 HI.out.1 HI.out.2.1 HI.out.2.2.1 HI.out.2.2.2 rfl (by decide) _ _ _ rfl E ad p.body.length kc (symCells p.body) rfl (symCells_length _) (Row.news ((HKs.out.keep hbX).row)) (symCells_one _) (by unfold maxLen; omega) (by omega) hb4.size ?_
                  intro v7 x3 hown7 hgrow7 _
                  simp only [Nat.zero_add, List.nil_append] at hown7
                  obtain ⟨K7, k7, rfl⟩ := own_form hown7
                  have hb7 : Below x1.heap.size x1 x3 := hb4.grown hgrow7 hb4.size (fun k hk => by have h : x1.heap.size = k := Option.some.inj hk; omega)
                  have HLT := Lib.hid HQ.ltB
                  have hwb := HQ.b.size
                  replace HQ := HQ.keep hb7
                  have d0 := cell_keep hb7 b0
                  have d1 := cell_keep hb7 b1
                  refine hK.out _ _ ?_ (fun hHeld => ?_)
                  · exact ⟨d0, d1⟩
                  clear hK K hb7 hgrow7 E hb4 b0 b1 hbX
                  have b0 := d0
                  have b1 := d1
                  clear d0 d1
                  simp only [Act.put, List.setIfInBounds_toArray]
                  (first
                    | (refine held_take (i := 8) (v := ?_) rfl (by kernel_rfl) (by kernel_rfl) (by kernel_rfl) (fun _ _ _ h => h) (Or.inl ⟨rfl, ?_⟩) (by assumption) ?_; rotate_left; (intro X hSw; (try dsimp only at hSw); (go_simp <;> with_reducible rfl)))
                    | (refine held_take (i := 8) (v := undef) rfl (by kernel_rfl) (by kernel_rfl) (by kernel_rfl) (fun _ _ _ h => h) (Or.inr ⟨rfl, rfl⟩) (by assumption) ?_)); simp only [Act.put]
                  refine wpAnyH_ready (rs := [9]) (by kernel_rfl) (by simp) ?_
                  refine AllReadyH.cons rfl (fun K hK => ?_) AllReadyH.nil
                  have on := (Own.new x3 57 #[.int .i64 (y : Nat), .slice K7 p.body.length k7]).row.news
                  replace HQ := HQ.alloc (.cells #[.int .i64 (y : Nat), .slice K7 p.body.length k7] 57)
                  replace hown7 := own_keep hown7 (below_box (.cells #[.int .i64 (y : Nat), .slice K7 p.body.length k7] 57))
                  replace b0 := cell_alloc b0 (.cells #[.int .i64 (y : Nat), .slice K7 p.body.length k7] 57)
                  replace b1 := cell_alloc b1 (.cells #[.int .i64 (y : Nat), .slice K7 p.body.length k7] 57)
                  go_simp
                  refine hK.out _ _ ?_ (fun hHeld => ?_)
                  · exact ⟨b0, b1⟩
                  clear hK K
                  generalize x3.alloc (.cells #[.int .i64 (y : Nat), .slice K7 p.body.length k7] 57) = x4 at HQ hown7 on b0 b1 hHeld ⊢
                  generalize x3.heap.size = B2 at on ⊢
                  refine wpAnyH_ready (rs := [10]) (by kernel_rfl) (by simp) ?_
                  refine AllReadyH.cons rfl (fun K hK => ?_) AllReadyH.nil
                  refine step_own_at x4 rfl _ _ 31 rfl wz.heap.size 57 i1 (.agg #[.int .i64 0, .slice none 0 0]) 2 32 Try.underlying31 HI1.out.1 HI1.out.2.1 HI1.out.2.2.1 HI1.out.2.2.2 rfl (by decide) _ _ _ rfl HQ.g.o ⟨B2, 0, none⟩ 1 1 [.int .i64 (y : Nat), .slice K7 p.body.length k7] rfl rfl on (fun u hu => by simp at hu; rcases hu with rfl | rfl <;> rfl) (by unfold maxLen; omega) (by omega) HQ.b.size ?_
                  intro v' x5 hown' hgrow' _
                  obtain ⟨A', cap', rfl⟩ := own_form hown'
                  have hown2 : x5.ownsRow wz.heap.size 57 2 (.slice A' (zs.length + 1) cap') (zs.length + 1) (pvCells zs ++ pvCells [⟨p, K7, k7⟩]) := by
                    have e : pvCells [⟨p, K7, k7⟩] = [.int .i64 (y : Nat), .slice K7 p.body.length k7] := by simp [pvCells, Pv.sl, HY.out]
                    rw [e]; exact hown'
                  obtain ⟨⟨v4, c4⟩, f4, hQ2⟩ := HQ.push (x := ⟨p, K7, k7⟩) hown7 (by omega) HLT.out hgrow' hown2
                  have hbk := hgrow'.block P (cell_lt b0) (fun e => HPB.out P e.symm rfl)
                  have d0 : x5.cell? ⟨P, 0, none⟩ = some (.int .i64 (y : Nat)) := by rw [World.cell?_of_block hbk]; exact b0
                  have d1 : x5.cell? ⟨P, 1, none⟩ = some (.slice (some ad) p.body.length kc) := by rw [World.cell?_of_block hbk]; exact b1
                  have HQ2 := Lib.hid hQ2
                  clear hQ2 hown2 hown' hgrow' hbk HQ hown7 on HLT b0 b1
                  refine hK.out _ _ ?_ (fun hHeld => ?_)
                  · exact ⟨d0, d1⟩
                  clear hK K
                  simp only [Act.put, List.setIfInBounds_toArray]
                  (first
                    | (refine held_take (i := 11) (v := ?_) rfl (by kernel_rfl) (by kernel_rfl) (by kernel_rfl) (fun _ _ _ h => h) (Or.inl ⟨rfl, ?_⟩) (by assumption) ?_; rotate_left; (intro X hSw; (try dsimp only at hSw); (go_simp <;> with_reducible rfl)))
                    | (refine held_take (i := 11) (v := undef) rfl (by kernel_rfl) (by kernel_rfl) (by kernel_rfl) (fun _ _ _ h => h) (Or.inr ⟨rfl, rfl⟩) (by assumption) ?_)); simp only [Act.put]
                  refine wpAnyH_ready (rs := [12]) (by kernel_rfl) (by simp) ?_
                  refine AllReadyH.cons rfl (fun K hK => ?_) AllReadyH.nil
                  have e0 : (x5.setCell ⟨wz.heap.size, 1, none⟩ (.slice A' (zs.length + 1) cap')).cell? ⟨P, 0, none⟩ = some (.int .i64 (y : Nat)) := by rw [World.cell?_of_block (Below.heap_setCell x5 _ _ P (by simp; omega))]; exact d0
                  have e1 : (x5.setCell ⟨wz.heap.size, 1, none⟩ (.slice A' (zs.length + 1) cap')).cell? ⟨P, 1, none⟩ = some (.slice (some ad) p.body.length kc) := by rw [World.cell?_of_block (Below.heap_setCell x5 _ _ P (by simp; omega))]; exact d1
                  go_simp
                  refine hK.out _ _ ?_ (fun hHeld => ?_)
                  · exact ⟨e0, e1⟩
                  clear hK K
                  refine wpAnyH_done (by kernel_rfl) ?_ _
                  clear c4 f4 d0 d1 e0 e1 hHeld
                  have HZ3 : Hid ((zs ++ [(⟨p, K7, k7⟩ : Pv)]).map Pv.p = ((ps.take (i + 1)).filter (termB L)).filter (fun p => fl N p.head)) := by show _ = _; rw [List.map_append]; exact HZ2.out
                  go_wp2
                  go_roundw
                  case rel => exact ⟨i + 1, by omega, by go_num, A', cap', zs ++ [⟨p, K7, k7⟩], HQ2, HZ3⟩
                  case measure => simp [intOf]; omega
                · replace HQ := HQ.drew
                  have b0 : w3.drew.cell? ⟨P, 0, none⟩ = some (.int .i64 (y : Nat)) := b0
                  have b1 : w3.drew.cell? ⟨P, 1, none⟩ = some (.slice (some ad) p.body.length kc) := b1
                  generalize w3.drew = x6 at HQ b0 b1 hK ⊢
                  have E := own_empty x6 68 3 x6.heap.size (Nat.le_refl _)
                  have hb4 : Below x6.heap.size x6 (x6.alloc (.cells #[] 68)) := below_box _
                  go_simp
                  refine hK.out _ _ ?_ (fun hHeld => ?_)
                  · exact ⟨cell_alloc b0 _, cell_alloc b1 _⟩
                  clear hK K
                  generalize x6.alloc (.cells #[] 68) = x7 at E hb4 hHeld ⊢
                  refine wpAnyH_ready (rs := [1, 7]) (by kernel_rfl) (by simp) ?_
                  refine AllReadyH.cons rfl (fun K hK => ?_) (AllReadyH.cons rfl (fun K hK => ?_) AllReadyH.nil)
                  · have cq := (HQ.keep hb4).cell
                    go_simp
                    refine hK.out _ _ ?_ (fun hHeld => ?_)
                    · exact ⟨cell_keep hb4 b0, cell_keep hb4 b1⟩
                    clear hK K cq
                    refine wpAnyH_ready (rs := [7]) (by kernel_rfl) (by simp) ?_
                    refine AllReadyH.cons rfl (fun K hK => ?_) AllReadyH.nil
                    have hbX : Below w.heap.size w x7 := HB3.out.trans ((HQ.b.trans (hb4.mono HQ.b.size)).mono HB3.out.size)
                    refine step_own_at x7 rfl _ _ 55 rfl x6.heap.size 68 i0 (.agg #[.int .i64 0, .int .i64 0, .int .i64 0]) 3 24 Try.underlying55 HI.out.1 HI.out.2.1 HI.out.2.2.1 HI.out.2.2.2 rfl (by decide) _ _ _ rfl E ad p.body.length kc (symCells p.body) rfl (symCells_length _) (Row.news ((HKs.out.keep hbX).row)) (symCells_one _) (by unfold maxLen; omega) (by omega) hb4.size ?_
                    intro v7 x8 hown7 hgrow7 _
                    simp only [Nat.zero_add, List.nil_append] at hown7
                    obtain ⟨K7, k7, rfl⟩ := own_form hown7
                    have hb7 : Below x6.heap.size x6 x8 := hb4.grown hgrow7 hb4.size (fun k hk => by have h : x6.heap.size = k := Option.some.inj hk; omega)
                    have HLT := Lib.hid HQ.ltB
                    have hwb := HQ.b.size
                    replace HQ := HQ.keep hb7
                    have d0 := cell_keep hb7 b0
                    have d1 := cell_keep hb7 b1
                    refine hK.out _ _ ?_ (fun hHeld => ?_)
                    · exact ⟨d0, d1⟩
                    clear hK K hb7 hgrow7 E hb4 b0 b1 hbX
                    have b0 := d0
                    have b1 := d1
                    clear d0 d1
                    simp only [Act.put, List.setIfInBounds_toArray]
                    (first
                      | (refine held_take (i := 8) (v := ?_) rfl (by kernel_rfl) (by kernel_rfl) (by kernel_rfl) (fun _ _ _ h => h) (Or.inl ⟨rfl, ?_⟩) (by assumption) ?_; rotate_left; (intro X hSw; (try dsimp only at hSw); (go_simp <;> with_reducible rfl)))
                      | (refine held_take (i := 8) (v := undef) rfl (by kernel_rfl) (by kernel_rfl) (by kernel_rfl) (fun _ _ _ h => h) (Or.inr ⟨rfl, rfl⟩) (by assumption) ?_)); simp only [Act.put]
                    refine wpAnyH_ready (rs := [9]) (by kernel_rfl) (by simp) ?_
                    refine AllReadyH.cons rfl (fun K hK => ?_) AllReadyH.nil
                    have on := (Own.new x8 57 #[.int .i64 (y : Nat), .slice K7 p.body.length k7]).row.news
                    replace HQ := HQ.alloc (.cells #[.int .i64 (y : Nat), .slice K7 p.body.length k7] 57)
                    replace hown7 := own_keep hown7 (below_box (.cells #[.int .i64 (y : Nat), .slice K7 p.body.length k7] 57))
                    replace b0 := cell_alloc b0 (.cells #[.int .i64 (y : Nat), .slice K7 p.body.length k7] 57)
                    replace b1 := cell_alloc b1 (.cells #[.int .i64 (y : Nat), .slice K7 p.body.length k7] 57)
                    go_simp
                    refine hK.out _ _ ?_ (fun hHeld => ?_)
                    · exact ⟨b0, b1⟩
                    clear hK K
                    generalize x8.alloc (.cells #[.int .i64 (y : Nat), .slice K7 p.body.length k7] 57) = x9 at HQ hown7 on b0 b1 hHeld ⊢
                    generalize x8.heap.size = B2 at on ⊢
                    refine wpAnyH_ready (rs := [10]) (by kernel_rfl) (by simp) ?_
                    refine AllReadyH.cons rfl (fun K hK => ?_) AllReadyH.nil
                    refine step_own_at x9 rfl _ _ 31 rfl wz.heap.size 57 i1 (.agg #[.int .i64 0, .slice none 0 0]) 2 32 Try.underlying31 HI1.out.1 HI1.out.2.1 HI1.out.2.2.1 HI1.out.2.2.2 rfl (by decide) _ _ _ rfl HQ.g.o ⟨B2, 0, none⟩ 1 1 [.int .i64 (y : Nat), .slice K7 p.body.length k7] rfl rfl on (fun u hu => by simp at hu; rcases hu with rfl | rfl <;> rfl) (by unfold maxLen; omega) (by omega) HQ.b.size ?_
                    intro v' x10 hown' hgrow' _
                    obtain ⟨A', cap', rfl⟩ := own_form hown'
                    have hown2 : x10.ownsRow wz.heap.size 57 2 (.slice A' (zs.length + 1) cap') (zs.length + 1) (pvCells zs ++ pvCells [⟨p, K7, k7⟩]) := by
                      have e : pvCells [⟨p, K7, k7⟩] = [.int .i64 (y : Nat), .slice K7 p.body.length k7] := by simp [pvCells, Pv.sl, HY.out]
                      rw [e]; exact hown'
                    obtain ⟨⟨v4, c4⟩, f4, hQ2⟩ := HQ.push (x := ⟨p, K7, k7⟩) hown7 (by omega) HLT.out hgrow' hown2
                    have hbk := hgrow'.block P (cell_lt b0) (fun e => HPB.out P e.symm rfl)
                    have d0 : x10.cell? ⟨P, 0, none⟩ = some (.int .i64 (y : Nat)) := by rw [World.cell?_of_block hbk]; exact b0
                    have d1 : x10.cell? ⟨P, 1, none⟩ = some (.slice (some ad) p.body.length kc) := by rw [World.cell?_of_block hbk]; exact b1
                    have HQ2 := Lib.hid hQ2
                    clear hQ2 hown2 hown' hgrow' hbk HQ hown7 on HLT b0 b1
                    refine hK.out _ _ ?_ (fun hHeld => ?_)
                    · exact ⟨d0, d1⟩
                    clear hK K
                    simp only [Act.put, List.setIfInBounds_toArray]
                    (first
                      | (refine held_take (i := 11) (v := ?_) rfl (by kernel_rfl) (by kernel_rfl) (by kernel_rfl) (fun _ _ _ h => h) (Or.inl ⟨rfl, ?_⟩) (by assumption) ?_; rotate_left; (intro X hSw; (try dsimp only at hSw); (go_simp <;> with_reducible rfl)))
                      | (refine held_take (i := 11) (v := undef) rfl (by kernel_rfl) (by kernel_rfl) (by kernel_rfl) (fun _ _ _ h => h) (Or.inr ⟨rfl, rfl⟩) (by assumption) ?_)); simp only [Act.put]
                    refine wpAnyH_ready (rs := [12]) (by kernel_rfl) (by simp) ?_
                    refine AllReadyH.cons rfl (fun K hK => ?_) AllReadyH.nil
                    have e0 : (x10.setCell ⟨wz.heap.size, 1, none⟩ (.slice A' (zs.length + 1) cap')).cell? ⟨P, 0, none⟩ = some (.int .i64 (y : Nat)) := by rw [World.cell?_of_block (Below.heap_setCell x10 _ _ P (by simp; omega))]; exact d0
                    have e1 : (x10.setCell ⟨wz.heap.size, 1, none⟩ (.slice A' (zs.length + 1) cap')).cell? ⟨P, 1, none⟩ = some (.slice (some ad) p.body.length kc) := by rw [World.cell?_of_block (Below.heap_setCell x10 _ _ P (by simp; omega))]; exact d1
                    go_simp
                    refine hK.out _ _ ?_ (fun hHeld => ?_)
                    · exact ⟨e0, e1⟩
                    clear hK K
                    refine wpAnyH_done (by kernel_rfl) ?_ _
                    clear c4 f4 d0 d1 e0 e1 hHeld
                    have HZ3 : Hid ((zs ++ [(⟨p, K7, k7⟩ : Pv)]).map Pv.p = ((ps.take (i + 1)).filter (termB L)).filter (fun p => fl N p.head)) := by show _ = _; rw [List.map_append]; exact HZ2.out
                    go_wp2
                    go_roundw
                    case rel => exact ⟨i + 1, by omega, by go_num, A', cap', zs ++ [⟨p, K7, k7⟩], HQ2, HZ3⟩
                    case measure => simp [intOf]; omega
                  · have hbX : Below w.heap.size w x7 := HB3.out.trans ((HQ.b.trans (hb4.mono HQ.b.size)).mono HB3.out.size)
                    refine step_own_at x7 rfl _ _ 55 rfl x6.heap.size 68 i0 (.agg #[.int .i64 0, .int .i64 0, .int .i64 0]) 3 24 Try.underlying55 HI.out.1 HI.out.2.1 HI.out.2.2.1 HI.out.2.2.2 rfl (by decide) _ _ _ rfl E ad p.body.length kc (symCells p.body) rfl (symCells_length _) (Row.news ((HKs.out.keep hbX).row)) (symCells_one _) (by unfold maxLen; omega) (by omega) hb4.size ?_
                    intro v7 x11 hown7 hgrow7 _
                    simp only [Nat.zero_add, List.nil_append] at hown7
                    obtain ⟨K7, k7, rfl⟩ := own_form hown7
                    have hb7 : Below x6.heap.size x6 x11 := hb4.grown hgrow7 hb4.size (fun k hk => by have h : x6.heap.size = k := Option.some.inj hk; omega)
                    have HLT := Lib.hid HQ.ltB
                    have hwb := HQ.b.size
                    replace HQ := HQ.keep hb7
                    have d0 := cell_keep hb7 b0
                    have d1 := cell_keep hb7 b1
                    refine hK.out _ _ ?_ (fun hHeld => ?_)
                    · exact ⟨d0, d1⟩
                    clear hK K hb7 hgrow7 E hb4 b0 b1 hbX
                    have b0 := d0
                    have b1 := d1
                    clear d0 d1
                    simp only [Act.put, List.setIfInBounds_toArray]
                    (first
                      | (refine held_take (i := 8) (v := ?_) rfl (by kernel_rfl) (by kernel_rfl) (by kernel_rfl) (fun _ _ _ h => h) (Or.inl ⟨rfl, ?_⟩) (by assumption) ?_; rotate_left; (intro X hSw; (try dsimp only at hSw); (go_simp <;> with_reducible rfl)))
                      | (refine held_take (i := 8) (v := undef) rfl (by kernel_rfl) (by kernel_rfl) (by kernel_rfl) (fun _ _ _ h => h) (Or.inr ⟨rfl, rfl⟩) (by assumption) ?_)); simp only [Act.put]
                    refine wpAnyH_ready (rs := [1, 9]) (by kernel_rfl) (by simp) ?_
                    refine AllReadyH.cons rfl (fun K hK => ?_) (AllReadyH.cons rfl (fun K hK => ?_) AllReadyH.nil)
                    · have cq := HQ.cell
                      go_simp
                      refine hK.out _ _ ?_ (fun hHeld => ?_)
                      · exact ⟨b0, b1⟩
                      clear hK K cq
                      refine wpAnyH_ready (rs := [9]) (by kernel_rfl) (by simp) ?_
                      refine AllReadyH.cons rfl (fun K hK => ?_) AllReadyH.nil
                      have on := (Own.new x11 57 #[.int .i64 (y : Nat), .slice K7 p.body.length k7]).row.news
                      replace HQ := HQ.alloc (.cells #[.int .i64 (y : Nat), .slice K7 p.body.length k7] 57)
                      replace hown7 := own_keep hown7 (below_box (.cells #[.int .i64 (y : Nat), .slice K7 p.body.length k7] 57))
                      replace b0 := cell_alloc b0 (.cells #[.int .i64 (y : Nat), .slice K7 p.body.length k7] 57)
                      replace b1 := cell_alloc b1 (.cells #[.int .i64 (y : Nat), .slice K7 p.body.length k7] 57)
                      go_simp
                      refine hK.out _ _ ?_ (fun hHeld => ?_)
                      · exact ⟨b0, b1⟩
                      clear hK K
                      generalize x11.alloc (.cells #[.int .i64 (y : Nat), .slice K7 p.body.length k7] 57) = x12 at HQ hown7 on b0 b1 hHeld ⊢
                      generalize x11.heap.size = B2 at on ⊢
                      refine wpAnyH_ready (rs := [10]) (by kernel_rfl) (by simp) ?_
                      refine AllReadyH.cons rfl (fun K hK => ?_) AllReadyH.nil
                      refine step_own_at x12 rfl _ _ 31 rfl wz.heap.size 57 i1 (.agg #[.int .i64 0, .slice none 0 0]) 2 32 Try.underlying31 HI1.out.1 HI1.out.2.1 HI1.out.2.2.1 HI1.out.2.2.2 rfl (by decide) _ _ _ rfl HQ.g.o ⟨B2, 0, none⟩ 1 1 [.int .i64 (y : Nat), .slice K7 p.body.length k7] rfl rfl on (fun u hu => by simp at hu; rcases hu with rfl | rfl <;> rfl) (by unfold maxLen; omega) (by omega) HQ.b.size ?_
                      intro v' x13 hown' hgrow' _
                      obtain ⟨A', cap', rfl⟩ := own_form hown'
                      have hown2 : x13.ownsRow wz.heap.size 57 2 (.slice A' (zs.length + 1) cap') (zs.length + 1) (pvCells zs ++ pvCells [⟨p, K7, k7⟩]) := by
                        have e : pvCells [⟨p, K7, k7⟩] = [.int .i64 (y : Nat), .slice K7 p.body.length k7] := by simp [pvCells, Pv.sl, HY.out]
                        rw [e]; exact hown'
                      obtain ⟨⟨v4, c4⟩, f4, hQ2⟩ := HQ.push (x := ⟨p, K7, k7⟩) hown7 (by omega) HLT.out hgrow' hown2
                      have hbk := hgrow'.block P (cell_lt b0) (fun e => HPB.out P e.symm rfl)
                      have d0 : x13.cell? ⟨P, 0, none⟩ = some (.int .i64 (y : Nat)) := by rw [World.cell?_of_block hbk]; exact b0
                      have d1 : x13.cell? ⟨P, 1, none⟩ = some (.slice (some ad) p.body.length kc) := by rw [World.cell?_of_block hbk]; exact b1
                      have HQ2 := Lib.hid hQ2
                      clear hQ2 hown2 hown' hgrow' hbk HQ hown7 on HLT b0 b1
                      refine hK.out _ _ ?_ (fun hHeld => ?_)
                      · exact ⟨d0, d1⟩
                      clear hK K
                      simp only [Act.put, List.setIfInBounds_toArray]
                      (first
                        | (refine held_take (i := 11) (v := ?_) rfl (by kernel_rfl) (by kernel_rfl) (by kernel_rfl) (fun _ _ _ h => h) (Or.inl ⟨rfl, ?_⟩) (by assumption) ?_; rotate_left; (intro X hSw; (try dsimp only at hSw); (go_simp <;> with_reducible rfl)))
                        | (refine held_take (i := 11) (v := undef) rfl (by kernel_rfl) (by kernel_rfl) (by kernel_rfl) (fun _ _ _ h => h) (Or.inr ⟨rfl, rfl⟩) (by assumption) ?_)); simp only [Act.put]
                      refine wpAnyH_ready (rs := [12]) (by kernel_rfl) (by simp) ?_
                      refine AllReadyH.cons rfl (fun K hK => ?_) AllReadyH.nil
                      have e0 : (x13.setCell ⟨wz.heap.size, 1, none⟩ (.slice A' (zs.length + 1) cap')).cell? ⟨P, 0, none⟩ = some (.int .i64 (y : Nat)) := by rw [World.cell?_of_block (Below.heap_setCell x13 _ _ P (by simp; omega))]; exact d0
                      have e1 : (x13.setCell ⟨wz.heap.size, 1, none⟩ (.slice A' (zs.length + 1) cap')).cell? ⟨P, 1, none⟩ = some (.slice (some ad) p.body.length kc) := by rw [World.cell?_of_block (Below.heap_setCell x13 _ _ P (by simp; omega))]; exact d1
                      go_simp
                      refine hK.out _ _ ?_ (fun hHeld => ?_)
                      · exact ⟨e0, e1⟩
                      clear hK K
                      refine wpAnyH_done (by kernel_rfl) ?_ _
                      clear c4 f4 d0 d1 e0 e1 hHeld
                      have HZ3 : Hid ((zs ++ [(⟨p, K7, k7⟩ : Pv)]).map Pv.p = ((ps.take (i + 1)).filter (termB L)).filter (fun p => fl N p.head)) := by show _ = _; rw [List.map_append]; exact HZ2.out
                      go_wp2
                      go_roundw
                      case rel => exact ⟨i + 1, by omega, by go_num, A', cap', zs ++ [⟨p, K7, k7⟩], HQ2, HZ3⟩
                      case measure => simp [intOf]; omega
                    · have on := (Own.new x11 57 #[.int .i64 (y : Nat), .slice K7 p.body.length k7]).row.news
                      replace HQ := HQ.alloc (.cells #[.int .i64 (y : Nat), .slice K7 p.body.length k7] 57)
                      replace hown7 := own_keep hown7 (below_box (.cells #[.int .i64 (y : Nat), .slice K7 p.body.length k7] 57))
                      replace b0 := cell_alloc b0 (.cells #[.int .i64 (y : Nat), .slice K7 p.body.length k7] 57)
                      replace b1 := cell_alloc b1 (.cells #[.int .i64 (y : Nat), .slice K7 p.body.length k7] 57)
                      go_simp
                      refine hK.out _ _ ?_ (fun hHeld => ?_)
                      · exact ⟨b0, b1⟩
                      clear hK K
                      generalize x11.alloc (.cells #[.int .i64 (y : Nat), .slice K7 p.body.length k7] 57) = x14 at HQ hown7 on b0 b1 hHeld ⊢
                      generalize x11.heap.size = B2 at on ⊢
                      refine wpAnyH_ready (rs := [1]) (by kernel_rfl) (by simp) ?_
                      refine AllReadyH.cons rfl (fun K hK => ?_) AllReadyH.nil
                      have cq := HQ.cell
                      go_simp
                      refine hK.out _ _ ?_ (fun hHeld => ?_)
                      · exact ⟨b0, b1⟩
                      clear hK K cq
                      refine wpAnyH_ready (rs := [10]) (by kernel_rfl) (by simp) ?_
                      refine AllReadyH.cons rfl (fun K hK => ?_) AllReadyH.nil
                      refine step_own_at x14 rfl _ _ 31 rfl wz.heap.size 57 i1 (.agg #[.int .i64 0, .slice none 0 0]) 2 32 Try.underlying31 HI1.out.1 HI1.out.2.1 HI1.out.2.2.1 HI1.out.2.2.2 rfl (by decide) _ _ _ rfl HQ.g.o ⟨B2, 0, none⟩ 1 1 [.int .i64 (y : Nat), .slice K7 p.body.length k7] rfl rfl on (fun u hu => by simp at hu; rcases hu with rfl | rfl <;> rfl) (by unfold maxLen; omega) (by omega) HQ.b.size ?_
                      intro v' x15 hown' hgrow' _
                      obtain ⟨A', cap', rfl⟩ := own_form hown'
                      have hown2 : x15.ownsRow wz.heap.size 57 2 (.slice A' (zs.length + 1) cap') (zs.length + 1) (pvCells zs ++ pvCells [⟨p, K7, k7⟩]) := by
                        have e : pvCells [⟨p, K7, k7⟩] = [.int .i64 (y : Nat), .slice K7 p.body.length k7] := by simp [pvCells, Pv.sl, HY.out]
                        rw [e]; exact hown'
                      obtain ⟨⟨v4, c4⟩, f4, hQ2⟩ := HQ.push (x := ⟨p, K7, k7⟩) hown7 (by omega) HLT.out hgrow' hown2
                      have hbk := hgrow'.block P (cell_lt b0) (fun e => HPB.out P e.symm rfl)
                      have d0 : x15.cell? ⟨P, 0, none⟩ = some (.int .i64 (y : Nat)) := by rw [World.cell?_of_block hbk]; exact b0
                      have d1 : x15.cell? ⟨P, 1, none⟩ = some (.slice (some ad) p.body.length kc) := by rw [World.cell?_of_block hbk]; exact b1
                      have HQ2 := Lib.hid hQ2
                      clear hQ2 hown2 hown' hgrow' hbk HQ hown7 on HLT b0 b1
                      refine hK.out _ _ ?_ (fun hHeld => ?_)
                      · exact ⟨d0, d1⟩
                      clear hK K
                      simp only [Act.put, List.setIfInBounds_toArray]
                      (first
                        | (refine held_take (i := 11) (v := ?_) rfl (by kernel_rfl) (by kernel_rfl) (by kernel_rfl) (fun _ _ _ h => h) (Or.inl ⟨rfl, ?_⟩) (by assumption) ?_; rotate_left; (intro X hSw; (try dsimp only at hSw); (go_simp <;> with_reducible rfl)))
                        | (refine held_take (i := 11) (v := undef) rfl (by kernel_rfl) (by kernel_rfl) (by kernel_rfl) (fun _ _ _ h => h) (Or.inr ⟨rfl, rfl⟩) (by assumption) ?_)); simp only [Act.put]
                      refine wpAnyH_ready (rs := [12]) (by kernel_rfl) (by simp) ?_
                      refine AllReadyH.cons rfl (fun K hK => ?_) AllReadyH.nil
                      have e0 : (x15.setCell ⟨wz.heap.size, 1, none⟩ (.slice A' (zs.length + 1) cap')).cell? ⟨P, 0, none⟩ = some (.int .i64 (y : Nat)) := by rw [World.cell?_of_block (Below.heap_setCell x15 _ _ P (by simp; omega))]; exact d0
                      have e1 : (x15.setCell ⟨wz.heap.size, 1, none⟩ (.slice A' (zs.length + 1) cap')).cell? ⟨P, 1, none⟩ = some (.slice (some ad) p.body.length kc) := by rw [World.cell?_of_block (Below.heap_setCell x15 _ _ P (by simp; omega))]; exact d1
                      go_simp
                      refine hK.out _ _ ?_ (fun hHeld => ?_)
                      · exact ⟨e0, e1⟩
                      clear hK K
                      refine wpAnyH_done (by kernel_rfl) ?_ _
                      clear c4 f4 d0 d1 e0 e1 hHeld
                      have HZ3 : Hid ((zs ++ [(⟨p, K7, k7⟩ : Pv)]).map Pv.p = ((ps.take (i + 1)).filter (termB L)).filter (fun p => fl N p.head)) := by show _ = _; rw [List.map_append]; exact HZ2.out
                      go_wp2
                      go_roundw
                      case rel => exact ⟨i + 1, by omega, by go_num, A', cap', zs ++ [⟨p, K7, k7⟩], HQ2, HZ3⟩
                      case measure => simp [intOf]; omega
                --END26
          · have hlt' : ¬ (i : Int) < (ps.length : Int) := by omega
            have HO4 := Lib.hid (HO3.out.keep HQ.out.b)
            have z0 : wr.cell? ⟨w.heap.size + 1, 0, none⟩ = some (.int .i64 0) := by rw [HO4.out.cell]; rfl
            have z1 : wr.cell? ⟨w.heap.size + 1, 1, none⟩ = some (.slice none 0 0) := by rw [HO4.out.cell]; rfl
            have f0 := HO4.out.frozen 0
            have f1 := HO4.out.frozen 1
            have lt2 := HO4.out.lt
            have y0 : wr.cell? ⟨wz.heap.size, 0, none⟩ = some (.int .i64 (n : Int)) := by rw [HQ.out.o.cell]; rfl
            have y1 : wr.cell? ⟨wz.heap.size, 1, none⟩ = some (.slice A zs.length cap) := HQ.out.cell
            have lt3 := HQ.out.o.lt
            have lt4 := HO3.out.lt
            have IT : Hid (IsTrim (n : Int) ps (n : Int) (zs.map Pv.p)) := by
              show IsTrim _ _ _ _
              unfold IsTrim
              rw [if_pos HOK.out]
              refine ⟨rfl, L, N, HIL.out, by simpa using HNeed.out, ?_⟩
              rw [HZ.out, List.take_of_length_le (by omega)]
            have hwz := HB3.out.size
            have HOG0 : OG wr w.heap.size A cap zs := ⟨own_base HQ.out.g.o hwz, fun i hi => own_base (HQ.out.g.d i hi) hwz, HQ.out.g.ap⟩
            have HOG := Lib.hid ((HOG0.far (i := 0) HO4.out (by decide) (by decide) (.int .i64 (n : Int))).far (i := 1) (HO4.out.set_ 0 (.int .i64 (n : Int))) (by decide) (by decide) (.slice A zs.length cap))
            have HBF := Lib.hid (HB3.out.trans (HQ.out.b.mono HB3.out.size))
            clear HOG0 HQ
            go_wp2
            refine bodyPost_ret (v := .agg #[.int .i64 (n : Int), .slice A zs.length cap]) (by simp [results, Try.results24, go_sem, z0, z1]) rfl ⟨n, A, cap, zs, rfl, IT.out, HOG.out, ?_⟩
            exact (HBF.out.setCell (by simp) _).setCell (by simp) _
      · clear HST
        go_wp2
        go_loopw [5, 6] (fun ag iv wr => ∃ i : Nat, i ≤ ps.length ∧ iv = .int .i64 i ∧ ∃ (ab : Bool) (N' : List Bool), ag = .bool ab ∧ Hid (FS w2 w2.heap.size N' wr) ∧ Hid (Snd n (ps.filter (termB L)) N') ∧ Hid (ab = false → N' = N ∧ ∀ j (h : j < ps.length), j < i → termB L ps[j] = true → fl N ps[j].head = true → Cov N ps[j]) ∧ Hid (ab = true → cntF N' < cntF N)) (fun _ iv _ => ps.length - (intOf iv).toNat)
        case atStart => exact ⟨0, Nat.zero_le _, rfl, false, N, rfl, HS1, HN1, fun _ => ⟨rfl, fun j _ hj => by omega⟩, fun h => by cases h⟩
        case round =>
          clear HS1 HN1
          obtain ⟨i, him, rfl, ab, N', rfl, HS1, HN1, HST, HTT⟩ := hrel
          have k1 := cell_keep HS1.out.b HK1.out
          have hkl := cell_lt k1
          simp only at hkl
          by_cases hlt : i < ps.length
          · have hlt' : (i : Int) < (ps.length : Int) := by omega
            obtain ⟨b, off, rfl, K, kc, hnw⟩ := HRW.out.at_ hlt
            have hn := hnw.keep HS1.out.b
            have HPM := Lib.hid (List.getElem_mem hlt)
            have HPJ : Hid ((∀ j (h : j < ps.length), j < i → termB L ps[j] = true → fl N ps[j].head = true → Cov N ps[j]) → (termB L ps[i] = true → fl N ps[i].head = true → Cov N ps[i]) → ∀ j (h : j < ps.length), j < i + 1 → termB L ps[j] = true → fl N ps[j].head = true → Cov N ps[j]) := fun h1 h2 j hj hji => by
              rcases Nat.lt_succ_iff_lt_or_eq.1 hji with h3 | h3
              · exact h1 j hj h3
              · subst h3; exact h2
            have c0 := hn.c0
            have c1 := hn.c1
            have HK := Lib.hid hnw.k
            clear hn hnw
            generalize ps[i] = p at *
            obtain ⟨p0, p1, p160, pin⟩ := HF.out p HPM.out
            have HB := Lib.hid pin
            clear pin
            obtain ⟨x, hx⟩ : ∃ x : Nat, p.head = x := ⟨p.head.toNat, by omega⟩
            have HX := Lib.hid hx
            have hxn : x < n := by omega
            have hxn' : (x : Int) < (n : Int) := by omega
            rw [hx] at c0
            have hfl := HS1.out.o.flag (k := (x : Int)) (by omega) (by rw [HN1.out.l]; omega)
            simp only [Int.toNat_natCast] at hfl
            have hfb := HS1.out.o.lt
            have HSA := Lib.hid (HS1.out.keep (below_box (.cells #[.int .i64 (x : Nat), .slice K p.body.length kc] 57)))
            clear hx p0 p1
            cases hq : fl N' (x : Int)
            · rw [hq] at hfl
              have HST3 : Hid (ab = false → N' = N ∧ ∀ j (h : j < ps.length), j < i + 1 → termB L ps[j] = true → fl N ps[j].head = true → Cov N ps[j]) := fun h => by
                obtain ⟨h1, h2⟩ := HST.out h
                refine ⟨h1, HPJ.out h2 (fun _ h3 => ?_)⟩
                subst h1
                rw [HX.out, hq] at h3
                cases h3
              clear HST HPJ hq HS1
              go_wp2
              go_roundw
              case rel => exact ⟨i + 1, by omega, by go_num, ab, N', rfl, HSA, HN1, HST3, HTT⟩
              case measure => simp [intOf]; omega
            · rw [hq] at hfl
              have HQ := Lib.hid hq
              have hbA : Below w2.heap.size w2 (wr.alloc (.cells #[.int .i64 (x : Nat), .slice K p.body.length kc] 57)) := HSA.out.b
              have HLB := Lib.hid (l3Body_n n p.body L K kc A2 cap2 (wr.alloc (.cells #[.int .i64 (x : Nat), .slice K p.body.length kc] 57)) (HK.out.keep hbA) (HL2.out.keep hbA) HLN.out ⟨p160, HB.out⟩ HGD.out hn2)
              clear hq hbA
              go_wp2_with fail
              refine HLB.out.mono ?_
              rintro e w3 ⟨rfl, hb3⟩
              have HSB := Lib.hid (HSA.out.keep hb3)
              have pb0 : w3.cell? ⟨wr.heap.size, 1, none⟩ = some (.slice K p.body.length kc) := cell_keep hb3 (by simp)
              have hT : termB L p = decide (0 ≤ sumOf L p.body) := rfl
              have hzb := sumOf_bound L p.body p160
              generalize sumOf L p.body = z at *
              have HT := Lib.hid hT
              have hpl := cell_lt pb0
              simp only at hpl
              clear hT hb3 HSA HLB hfl HS1 c0 c1
              by_cases hz : z < 0
              · have HST3 : Hid (ab = false → N' = N ∧ ∀ j (h : j < ps.length), j < i + 1 → termB L ps[j] = true → fl N ps[j].head = true → Cov N ps[j]) := fun h => by
                  obtain ⟨h1, h2⟩ := HST.out h
                  refine ⟨h1, HPJ.out h2 (fun h3 => ?_)⟩
                  rw [HT.out] at h3
                  simp at h3
                  omega
                clear HST HPJ
                go_wp2
                go_roundw
                case rel => exact ⟨i + 1, by omega, by go_num, ab, N', rfl, HSB, HN1, HST3, HTT⟩
                case measure => simp [intOf]; omega
              · have hT2 : Hid (termB L p = true) := by show _ = _; rw [HT.out]; simp; omega
                have HPF : Hid (p ∈ ps.filter (termB L)) := List.mem_filter.2 ⟨HPM.out, hT2.out⟩
                have k1B := cell_keep HSB.out.b HK1.out
                clear HT hzb k1
                generalize wr.heap.size = P at *
                go_wp2
                go_loopw [5, 8] (fun ag tv wr2 => ∃ t : Nat, t ≤ p.body.length ∧ tv = .int .i64 t ∧ ∃ (ab2 : Bool) (N2 : List Bool), ag = .bool ab2 ∧ Hid (FS w2 w2.heap.size N2 wr2) ∧ Hid (Snd n (ps.filter (termB L)) N2) ∧ Hid (fl N2 (x : Int) = true) ∧ Hid (wr2.cell? ⟨P, 1, none⟩ = some (.slice K p.body.length kc)) ∧ Hid (ab2 = false → N2 = N ∧ (∀ j (h : j < ps.length), j < i → termB L ps[j] = true → fl N ps[j].head = true → Cov N ps[j]) ∧ ∀ u (h : u < p.body.length), u < t → 0 ≤ p.body[u].head → fl N p.body[u].head = true) ∧ Hid (ab2 = true → cntF N2 < cntF N)) (fun _ tv _ => p.body.length - (intOf tv).toNat)
                case atStart => exact ⟨0, Nat.zero_le _, rfl, ab, N', rfl, HSB, HN1, HQ, pb0, fun h => ⟨(HST.out h).1, (HST.out h).2, fun u _ hu => by omega⟩, HTT⟩
                case round =>
                  clear HSB HN1 HQ pb0 HST HTT k1B
                  obtain ⟨t, htl, rfl, ab2, N2, rfl, HS1, HN1, HQ, HP1, HST, HTT⟩ := hrel
                  have pb1 := HP1.out
                  have k1 := cell_keep HS1.out.b HK1.out
                  have hpl2 := cell_lt pb1
                  simp only at hpl2
                  by_cases htt : t < p.body.length
                  · have htt' : (t : Int) < (p.body.length : Int) := by omega
                    obtain ⟨sb, so, rfl, hsy⟩ := (HK.out.keep HS1.out.b).at_ htt
                    have HSM := Lib.hid (List.getElem_mem htt)
                    have hin := HB.out _ HSM.out
                    have HUJ : Hid ((∀ u (h : u < p.body.length), u < t → 0 ≤ p.body[u].head → fl N p.body[u].head = true) → (0 ≤ p.body[t].head → fl N p.body[t].head = true) → ∀ u (h : u < p.body.length), u < t + 1 → 0 ≤ p.body[u].head → fl N p.body[u].head = true) := fun h1 h2 u hu hut => by
                      rcases Nat.lt_succ_iff_lt_or_eq.1 hut with h3 | h3
                      · exact h1 u hu h3
                      · subst h3; exact h2
                    obtain ⟨s0, s1, s2⟩ := hsy
                    generalize p.body[t] = sy at *
                    clear s1 s2
                    by_cases hneg : sy.head = -1
                    · have e3 : ¬ (0 : Int) ≤ sy.head := by omega
                      have HST3 : Hid (ab2 = false → N2 = N ∧ (∀ j (h : j < ps.length), j < i → termB L ps[j] = true → fl N ps[j].head = true → Cov N ps[j]) ∧ ∀ u (h : u < p.body.length), u < t + 1 → 0 ≤ p.body[u].head → fl N p.body[u].head = true) := fun h => by
                        obtain ⟨h1, h2, h3⟩ := HST.out h
                        exact ⟨h1, h2, HUJ.out h3 (fun h4 => by omega)⟩
                      clear HST HUJ hneg hin
                      go_wp2
                      go_roundw
                      case rel => exact ⟨t + 1, by omega, by go_num, ab2, N2, rfl, HS1, HN1, HQ, HP1, HST3, HTT⟩
                      case measure => simp [intOf]; omega
                    · obtain ⟨y, hy⟩ : ∃ y : Nat, sy.head = y := ⟨sy.head.toNat, by omega⟩
                      have hyn : y < n := by omega
                      have hyn' : (y : Int) < (n : Int) := by omega
                      have HY := Lib.hid hy
                      rw [hy] at s0
                      have hfl := HS1.out.o.flag (k := (y : Int)) (by omega) (by rw [HN1.out.l]; omega)
                      simp only [Int.toNat_natCast] at hfl
                      have hfb2 := HS1.out.o.lt
                      have ffz := HS1.out.o.frozen y
                      have hyl : y < N2.length := by rw [HN1.out.l]; exact hyn
                      clear hy hneg hin
                      cases hq : fl N2 (y : Int)
                      · rw [hq] at hfl
                        have HS2 := Lib.hid (HS1.out.flag y)
                        have HN2 := Lib.hid (HN1.out.add HPF.out (by rw [HX.out]; omega) (by rw [HX.out]; exact HQ.out) HSM.out HY.out hyn)
                        have HQ2 : Hid (fl (N2.set y true) (x : Int) = true) := fl_up hyl HQ.out
                        have HP2 : Hid ((wr.setCell ⟨w2.heap.size, y, none⟩ (.bool true)).cell? ⟨P, 1, none⟩ = some (.slice (some ⟨sb, so, none⟩) p.body.length kc)) := by
                          show _ = _
                          rw [World.cell?_of_block (Below.heap_setCell wr _ _ P (by simp; omega))]
                          exact HP1.out
                        have HT2 : Hid (cntF (N2.set y true) < cntF N) := by
                          have h1 := cntF_set hyl (by rw [← fl_nat N2 y hyl]; exact hq)
                          show _ < _
                          cases ab2
                          · have h2 := (HST.out rfl).1; subst h2; omega
                          · have h2 := HTT.out rfl; omega
                        have hPy : P ≠ w2.heap.size := by omega
                        clear hq HST HTT HUJ HS1 HN1 HQ HP1
                        go_wp2
                        go_roundw
                        case rel => exact ⟨t + 1, by omega, by go_num, true, N2.set y true, rfl, HS2, HN2, HQ2, HP2, (fun h => by cases h), fun _ => HT2.out⟩
                        case measure => simp [intOf]; omega
                      · rw [hq] at hfl
                        have HST3 : Hid (ab2 = false → N2 = N ∧ (∀ j (h : j < ps.length), j < i → termB L ps[j] = true → fl N ps[j].head = true → Cov N ps[j]) ∧ ∀ u (h : u < p.body.length), u < t + 1 → 0 ≤ p.body[u].head → fl N p.body[u].head = true) := fun h => by
                          obtain ⟨h1, h2, h3⟩ := HST.out h
                          refine ⟨h1, h2, HUJ.out h3 (fun h4 => ?_)⟩
                          rw [HY.out, ← h1]; exact hq
                        clear HST HUJ hq
                        go_wp2
                        go_roundw
                        case rel => exact ⟨t + 1, by omega, by go_num, ab2, N2, rfl, HS1, HN1, HQ, HP1, HST3, HTT⟩
                        case measure => simp [intOf]; omega
                  · have htt' : ¬ (t : Int) < (p.body.length : Int) := by omega
                    have HST3 : Hid (ab2 = false → N2 = N ∧ ∀ j (h : j < ps.length), j < i + 1 → termB L ps[j] = true → fl N ps[j].head = true → Cov N ps[j]) := fun h => by
                      obtain ⟨h1, h2, h3⟩ := HST.out h
                      refine ⟨h1, HPJ.out h2 (fun _ _ s hs h0 => ?_)⟩
                      obtain ⟨u, hu, rfl⟩ := List.getElem_of_mem hs
                      exact h3 u hu (by omega) h0
                    clear HST HPJ
                    go_wp2
                    go_roundw
                    case rel => exact ⟨i + 1, by omega, by go_num, ab2, N2, rfl, HS1, HN1, HST3, HTT⟩
                    case measure => simp [intOf]; omega
          · have hlt' : ¬ (i : Int) < (ps.length : Int) := by omega
            have HR2 : Hid (readN w2.heap.size n wr = N') := by show _ = _; rw [← HN1.out.l]; exact HS1.out.read
            have HS2 : Hid (ab = false → ∀ p ∈ ps.filter (termB L), fl N' p.head = true → Cov N' p) := fun h p hp => by
              obtain ⟨h1, h2⟩ := HST.out h
              subst h1
              obtain ⟨hp1, hp2⟩ := List.mem_filter.1 hp
              obtain ⟨j, hj, rfl⟩ := List.getElem_of_mem hp1
              exact h2 j hj (by omega) hp2
            have HM : Hid (cntF N' + bN (.bool ab) < cntF N + 1) := by
              show _ < _
              cases ab
              · have := (HST.out rfl).1; subst this; simp [bN]
              · have := HTT.out rfl; simp [bN]; omega
            clear HST HTT
            go_wp2
            go_roundw
            case rel => exact ⟨ab, N', rfl, HS1, HN1, HS2⟩
            case measure => rw [HR2.out, HRD.out]; exact HM.out

end Go.Proofs.Ytafldjbmheopjaa
