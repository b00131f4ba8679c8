/- A value is drawn, some spoilt: l71Json. -/
import Derived.Test.YtmmafhibojipjaaDoorJD7
import Derived.Test.YtmmafhibojipjaaDoorJ2
namespace Go.Proofs.YtmmafhibojipjaaDoor
open Go.RowKit
set_option linter.unusedVariables false

set_option maxRecDepth 100000 in
set_option maxHeartbeats 4000000 in
theorem drawJson_any (B g N : Nat) (w : World) (hrd : Rd w B g N) (hB : B ≤ w.heap.size) (hN : N ≤ 100) :
    Calls Tryd.prog 22 #[.pointer (some ⟨g, 0, none⟩)] w (DrawnJ w B g N) := by
  obtain ⟨i1, hi0, hz0, hz1, hz2⟩ := info_parts infoSt
  have HIS := Lib.hid (And.intro hi0 (And.intro hz0 (And.intro hz1 hz2)))
  clear hi0 hz0 hz1 hz2
  obtain ⟨i0, hj0, hy0, hy1, hy2⟩ := info_parts infoJs
  have HIJ := Lib.hid (And.intro hj0 (And.intro hy0 (And.intro hy1 hy2)))
  clear hj0 hy0 hy1 hy2
  obtain ⟨w1, hw1⟩ : ∃ w1, w.alloc (.cells #[.int .i64 0, .bool false, .string ⟨#[]⟩, .slice none 0 0, .slice none 0 0] 26) = w1 := ⟨_, rfl⟩
  have HRD1 : Hid (Rd w1 B g N) := by rw [← hw1]; exact hrd.alloc hB _
  have HR1 : Hid (Own w1 w.heap.size 26 (c5 0 false ⟨#[]⟩ none 0 0 none 0 0)) := by rw [← hw1]; exact Own.new w 26 #[.int .i64 0, .bool false, .string ⟨#[]⟩, .slice none 0 0, .slice none 0 0]
  have HG1 : Hid (w.grownBy w1 (some g)) := by rw [← hw1]; exact only_alloc (only_of_below (Below.refl _ _) (Nat.le_refl _) _) _
  have HSZ1 : Hid (w1.heap.size = w.heap.size + 1) := by show _ = _; rw [← hw1]; simp
  have HW1 := Lib.hid hw1
  have hg0 : g < w.heap.size := by have := hrd.ltB; omega
  clear hw1 hrd
  go_enter Tryd.func22, Tryd.ntmps22
  go_wp2_with fail
  rw [HW1.out]
  clear HW1
  refine (pick_any B g N 4 w1 HRD1.out (by omega) (by omega) (by omega)).mono ?_
  rintro e w2 ⟨v, rfl, hv0, hv1, hrd2, hg2⟩
  have hv2 : v ≤ 3 := by rcases hv1 with h | h <;> omega
  obtain ⟨d, rfl⟩ := Int.eq_ofNat_of_zero_le hv0
  have HDE : Hid (1 + (d : Int) = ((d + 1 : Nat) : Int)) := by show _ = _; omega
  have hd3 : d ≤ 3 := by omega
  have HCS := Lib.hid (costS_le (d + 1) (by omega))
  have HCF := Lib.hid (costF_le (d + 1) (by omega))
  have hsz2 := hg2.size
  have HSC := Lib.hid (schema_all (d + 1) (by omega) (by omega) B g (N + 1) w2 hrd2 (by have := HSZ1.out; omega) (by have := HCS.out; omega))
  have HG2 := Lib.hid (only_trans HG1.out hg2)
  have HR2 := Lib.hid (own_touch HR1.out hg2 (by omega))
  clear hrd2 hg2 hv1 hv2 hv0
  go_wp2_with fail
  simp only [HDE.out]
  refine HSC.out.mono ?_
  rintro e w3 ⟨sk, smn, smx, sns, sms, skids, sA, sM, sK, sca, sma, skc, rfl, sT, sok, hrd3, hg3⟩
  have hsz3 := hg3.size
  have hs1 := HSZ1.out
  have HFT := Lib.hid (drawFit_all (d + 1) (by omega) sk smn smx sns sms skids sA sM sK sca sma skc B g (N + 1 + costS (d + 1)) w3 sok hrd3 (by omega) (by have := HCS.out; have := HCF.out; omega) ((sT.toC sk smn smx).mono fun b hb _ => by omega))
  have HG3 := Lib.hid (only_trans HG2.out hg3)
  have HR3 := Lib.hid (own_touch HR2.out hg3 (by omega))
  clear sT sok hrd3 hg3 HSC
  go_wp2_with fail
  refine HFT.out.mono ?_
  rintro e w4 ⟨jk, jf, jt, jns, jkids, jA, jK, jca, jkc, rfl, jT, jl, hrd4, hg4⟩
  have hsz4 := hg4.size
  have HG4 := Lib.hid (only_trans HG3.out hg4)
  have HR4 := Lib.hid (own_touch HR3.out hg4 (by omega))
  have HT4 := Lib.hid jT
  have HL4 := Lib.hid jl
  have HJ := JJ.start (hrd4.mono (N' := N + 30000) (Nat.le_refl _) (by have := HCS.out; have := HCF.out; omega)) (by omega) (c5 jk jf jt jA jns.length jca jK jkids.length jkc)
  have hg3' : g < w3.heap.size := by omega
  have hR4 : w.heap.size < w4.heap.size := by omega
  have hR3 : w.heap.size < w3.heap.size := by omega
  have h34 : w3.heap.size ≤ w4.heap.size := hsz4
  have hBw : B ≤ w.heap.size := hB
  clear jT jl hrd4 hg4 HFT HG2 HG3 HR1 HR2 HR3 HDE hs1 HSZ1 HCS HCF HG1 HRD1 hsz2 hsz3 hsz4
  simp only [c5] at HJ ⊢
  go_upto_region 2 with fail
  generalize w4.alloc (.cells #[.int .i64 jk, .bool jf, .string jt, .slice jA jns.length jca, .slice jK jkids.length jkc] 26) = w5 at *
  go_wp2_with fail
  refine (pick_any B g (N + 30000) 16 w5 HJ.rd (by omega) (by omega) (by omega)).mono ?_
  rintro e w6 ⟨u, rfl, hu0, hu1, hrd6, hg6⟩
  replace HJ := HJ.touch hg6 hrd6
  clear hrd6 hg6
  go_upto_block 0 with fail
  obtain ⟨P, hP⟩ : ∃ P, w4.heap.size = P := ⟨_, rfl⟩
  have HPN := Lib.hid hP
  clear hP
  go_cut [] (fun wx => ∃ (k : Int) (f : Bool) (t : ByteArray) (ns : List ByteArray) (kids : List Js) (A K : Option Addr) (ca kc : Nat), Hid (JsC wx (fun b => w.heap.size < b ∧ b ≠ w4.heap.size) (c5 k f t A ns.length ca K kids.length kc) (.mk k f t ns kids)) ∧ Hid (LimJ 1048576 (.mk k f t ns kids)) ∧ Hid (CJ w w.heap.size w4.heap.size B g (N + 40000) (c5 0 false ⟨#[]⟩ none 0 0 none 0 0) (c5 k f t A ns.length ca K kids.length kc) wx))
  case first =>
    have HCUT : Hid (∀ cs N' wx, N' ≤ N + 40000 → JJ w4 B g N' cs wx → CJ w w.heap.size w4.heap.size B g (N + 40000) (c5 0 false ⟨#[]⟩ none 0 0 none 0 0) cs wx) := fun cs N' wx hN' h => (h.cut HR4.out (by omega) HG4.out).mono hN'
    have HJC : Hid (∀ wx k f t, w4.grownBy wx (some g) → JsC wx (fun b => w.heap.size < b ∧ b ≠ w4.heap.size) (c5 k f t jA jns.length jca jK jkids.length jkc) (.mk k f t jns jkids)) := fun wx k f t hx => (HT4.out.toC k f t).mv' fun b hb hl => ⟨hx.block b hl (fun e => by injection e with e; omega), by omega, by omega⟩
    cases HL4.out with
    | mk _ _ _ _ _ l1 l2 l3 l4 l5 =>
    have HL5 := Lib.hid (And.intro l1 (And.intro l2 (And.intro l3 (And.intro l4 l5))))
    clear l1 l2 l3 l4 l5
    by_cases u0 : u = 0
    · have q0 : (u == 0) = true := by simp [u0]
      clear u0 hu0 hu1
      go_wp2_with fail
      refine (pick_any B g (N + 30001) 8 w6 HJ.rd (by omega) (by omega) (by omega)).mono ?_
      rintro e w7 ⟨x, rfl, hx0, hx1, hrd7, hg7⟩
      replace HJ := HJ.touch hg7 hrd7
      have c0 := (c5_cells (k := jk) (f := jf) (t := jt) (A := jA) (K := jK) HJ.p).1
      have f0 := HJ.p.frozen 0
      have pl := HJ.lt
      have HJ9 := Lib.hid (HJ.set 0 (.int .i64 x))
      go_wp2_with fail
      go_meet
      exact ⟨x, jf, jt, jns, jkids, jA, jK, jca, jkc, HJC.out _ _ _ _ HJ9.out.fr, (LimJ.mk x jf jt jns jkids HL5.out.1 HL5.out.2.1 HL5.out.2.2.1 HL5.out.2.2.2.1 HL5.out.2.2.2.2 : LimJ 1000 _).up (by decide), HCUT.out _ _ _ (by omega) HJ9.out⟩
    have q0 : (u == 0) = false := by simp [u0]
    by_cases u1 : u = 1
    · have q1 : (u == 1) = true := by simp [u1]
      clear u0 u1 hu0 hu1
      go_wp2_with fail
      refine (many_any ⟨#[121]⟩ 21 w6 (by omega) (by omega) (by decide)).mono ?_
      rintro e w7 ⟨y, rfl, hy, rfl⟩
      have hy2 : y.size = 21 := hy
      clear hy
      go_wp2_with fail
      have HO := Lib.hid (Own.new w6 9 #[.string ⟨#[120]⟩, .string ⟨#[34]⟩, .string ⟨#[10]⟩, .string y, .string ⟨#[49, 50]⟩])
      have hl6 := HJ.lt
      have hgl := HJ.g_lt
      replace HJ := HJ.alloc (.cells #[.string ⟨#[120]⟩, .string ⟨#[34]⟩, .string ⟨#[10]⟩, .string y, .string ⟨#[49, 50]⟩] 9)
      refine (of_any B g (N + 30001) w6.heap.size 0 5 [⟨#[120]⟩, ⟨#[34]⟩, ⟨#[10]⟩, y, ⟨#[49, 50]⟩] _ HJ.rd (by omega) (by simp) (by simp) (by omega) (fun i hi => by
        rw [Nat.zero_add, HO.out.cell]
        have h7 : i = 0 ∨ i = 1 ∨ i = 2 ∨ i = 3 ∨ i = 4 := by simp at hi; omega
        rcases h7 with rfl | rfl | rfl | rfl | rfl <;> rfl)).mono ?_
      rintro e w7 ⟨x, rfl, hs, hrd7, hg7⟩
      have hx2 : x.size ≤ 1000 := by
        simp only [List.mem_cons, List.mem_nil_iff, or_false] at hs
        rcases hs with rfl | rfl | rfl | rfl | rfl
        · decide
        · decide
        · decide
        · omega
        · decide
      replace HJ := HJ.touch hg7 hrd7
      have c0 := (c5_cells (k := jk) (f := jf) (t := jt) (A := jA) (K := jK) HJ.p).2.2.1
      have f0 := HJ.p.frozen 2
      have pl := HJ.lt
      have HJ9 := Lib.hid (HJ.set 2 (.string x))
      clear hs HO hrd7 hg7
      go_wp2_with fail
      go_meet
      exact ⟨jk, jf, x, jns, jkids, jA, jK, jca, jkc, HJC.out _ _ _ _ HJ9.out.fr, (LimJ.mk jk jf x jns jkids hx2 HL5.out.2.1 HL5.out.2.2.1 HL5.out.2.2.2.1 HL5.out.2.2.2.2 : LimJ 1000 _).up (by decide), HCUT.out _ _ _ (by omega) HJ9.out⟩
    have q1 : (u == 1) = false := by simp [u1]
    by_cases u2 : u = 2
    · have q2 : (u == 2) = true := by simp [u2]
      clear u0 u1 u2 hu0 hu1
      have c3 := (c5_cells (k := jk) (f := jf) (t := jt) (A := jA) (K := jK) HJ.p).2.2.2.1
      have hjn : jns.length ≤ 1000 := HL5.out.2.1
      have hgl := HJ.g_lt
      go_wp2
      refine wp_region_upto (S := (fun X => X.cell? ⟨w4.heap.size, 3, none⟩ = some (.slice jA jns.length jca))) (z := 8) (by kernel_rfl) ?_ (fun hHeld => ?_)
      · exact c3
      clear c3
      (first
        | (refine upto_take (i := 0) (v := ?_) rfl rfl (by kernel_rfl) (by kernel_rfl) (by kernel_rfl) (by kernel_rfl) (fun _ _ _ h => h) (Or.inl ⟨rfl, ?_⟩) (by assumption) ?_; rotate_left; (intro X hSw; (try dsimp only at hSw); (go_simp <;> with_reducible rfl)))
        | (refine upto_take (i := 0) (v := undef) rfl rfl (by kernel_rfl) (by kernel_rfl) (by kernel_rfl) (by kernel_rfl) (fun _ _ _ h => h) (Or.inr ⟨rfl, rfl⟩) (by assumption) ?_)); simp only [Act.put, List.setIfInBounds_toArray, List.set_cons_zero, List.set_cons_succ]
      (first
        | (refine upto_take (i := 1) (v := ?_) rfl rfl (by kernel_rfl) (by kernel_rfl) (by kernel_rfl) (by kernel_rfl) (fun _ _ _ h => h) (Or.inl ⟨rfl, ?_⟩) (by assumption) ?_; rotate_left; (intro X hSw; (try dsimp only at hSw); (go_simp <;> with_reducible rfl)))
        | (refine upto_take (i := 1) (v := undef) rfl rfl (by kernel_rfl) (by kernel_rfl) (by kernel_rfl) (by kernel_rfl) (fun _ _ _ h => h) (Or.inr ⟨rfl, rfl⟩) (by assumption) ?_)); simp only [Act.put, List.setIfInBounds_toArray, List.set_cons_zero, List.set_cons_succ]
      (first
        | (refine upto_take (i := 2) (v := ?_) rfl rfl (by kernel_rfl) (by kernel_rfl) (by kernel_rfl) (by kernel_rfl) (fun _ _ _ h => h) (Or.inl ⟨rfl, ?_⟩) (by assumption) ?_; rotate_left; (intro X hSw; (try dsimp only at hSw); (go_simp <;> with_reducible rfl)))
        | (refine upto_take (i := 2) (v := undef) rfl rfl (by kernel_rfl) (by kernel_rfl) (by kernel_rfl) (by kernel_rfl) (fun _ _ _ h => h) (Or.inr ⟨rfl, rfl⟩) (by assumption) ?_)); simp only [Act.put, List.setIfInBounds_toArray, List.set_cons_zero, List.set_cons_succ]
      refine upto_ready (i := 3) (by kernel_rfl) rfl (fun K hK => ?_)
      have HO := Lib.hid ((Own.new w6 9 #[.string ⟨#[97]⟩, .string ⟨#[81]⟩]).drew)
      have hl6 := HJ.lt
      replace HJ := (HJ.alloc (.cells #[.string ⟨#[97]⟩, .string ⟨#[81]⟩] 9)).drew
      have HOF := Lib.hid (of_any B g (N + 30001) w6.heap.size 0 2 [⟨#[97]⟩, ⟨#[81]⟩] _ HJ.rd (by omega) (by simp) (by simp) (by omega) (fun i hi => by
        rw [Nat.zero_add, HO.out.cell]
        have h7 : i = 0 ∨ i = 1 := by simp at hi; omega
        rcases h7 with rfl | rfl <;> rfl))
      clear hHeld
      go_simp
      refine hK.out _ _ ?_ (fun hHeld => ?_)
      · exact (c5_cells (k := jk) (f := jf) (t := jt) (A := jA) (K := jK) HJ.p).2.2.2.1
      clear hK K
      refine upto_ready (i := 4) (by kernel_rfl) rfl (fun K hK => ?_)
      go_simp
      refine HOF.out.mono ?_
      rintro e w7 ⟨x, rfl, hs, hrd7, hg7⟩
      have hx2 : x.size ≤ 1000 := by
        simp only [List.mem_cons, List.mem_nil_iff, or_false] at hs
        rcases hs with rfl | rfl <;> decide
      replace HJ := HJ.touch hg7 hrd7
      clear hs HO HOF hrd7 hg7 hHeld
      refine hK.out _ _ ?_ (fun hHeld => ?_)
      · exact (c5_cells (k := jk) (f := jf) (t := jt) (A := jA) (K := jK) HJ.p).2.2.2.1
      clear hK K
      refine upto_ready (i := 5) (by kernel_rfl) rfl (fun K hK => ?_)
      have hl7 := HJ.lt
      replace HJ := HJ.alloc (.cells #[.string x] 9)
      have HN := Lib.hid (cells_new w7 [.string x] 9)
      simp only [List.toArray] at HN
      have swb : w7.heap.size + 1 = (w7.alloc (.cells #[.string x] 9)).heap.size := by simp
      clear hHeld
      go_simp
      refine hK.out _ _ ?_ (fun hHeld => ?_)
      · exact (c5_cells (k := jk) (f := jf) (t := jt) (A := jA) (K := jK) HJ.p).2.2.2.1
      clear hK K
      have HTO := Lib.hid (HJ.owned HT4.out hg3')
      refine upto_ready (i := 6) (by kernel_rfl) rfl (fun K hK => ?_)
      refine step_own_v (w7.alloc (.cells #[.string x] 9)) rfl _ _ 23 rfl w3.heap.size 9 i1 (.string ⟨#[]⟩) 1 16 Tryd.underlying23 HIS.out.1 HIS.out.2.1 HIS.out.2.2.1 HIS.out.2.2.2 rfl (by decide) _ _ _ rfl HTO.out.oA ⟨w7.heap.size, 0, none⟩ 1 1 [.string x] rfl rfl HN.out ?d2 ?d3 ?d4 ?d5 ?_
      case d2 => (intro u hu; simp at hu; subst hu; rfl)
      case d3 => unfold maxLen; omega
      case d4 => omega
      case d5 => omega
      intro v' w9 hown hgrow hat
      have hgrow2 : (w7.alloc (.cells #[.string x] 9)).grownBy w9 (Value.slice jA jns.length jca).ownBlock := hgrow
      have hat2 : v'.ownBlock = (Value.slice jA jns.length jca).ownBlock ∨ v'.ownBlock = some (w7.alloc (.cells #[.string x] 9)).heap.size := hat
      clear hgrow hat HTO HN
      obtain ⟨A2, ca2, rfl, HC9⟩ := HT4.out.appName (w9 := w9) (fun b hb hne hs => (hgrow2.block b (by omega) (fun e => hne e.symm)).trans (HJ.fr.block b hb (fun e => by injection e with e; omega))) hown hat2 (by omega)
      have HD := HJ.appended (r := w.heap.size) hgrow2 (fun b e => HT4.out.oA.lt b e) hg3' (by omega) hR3 (by omega) h34 HR4.out (by omega) HG4.out
      have HC9 := Lib.hid HC9
      clear hown hgrow2 hat2 hHeld
      refine hK.out _ _ ?_ (fun hHeld => ?_)
      · exact (c5_cells (k := jk) (f := jf) (t := jt) (A := jA) (K := jK) HD.p).2.2.2.1
      clear hK K
      (first
        | (refine upto_take (i := 7) (v := ?_) rfl rfl (by kernel_rfl) (by kernel_rfl) (by kernel_rfl) (by kernel_rfl) (fun _ _ _ h => h) (Or.inl ⟨rfl, ?_⟩) (by assumption) ?_; rotate_left; (intro X hSw; (try dsimp only at hSw); (go_simp <;> with_reducible rfl)))
        | (refine upto_take (i := 7) (v := undef) rfl rfl (by kernel_rfl) (by kernel_rfl) (by kernel_rfl) (by kernel_rfl) (fun _ _ _ h => h) (Or.inr ⟨rfl, rfl⟩) (by assumption) ?_)); simp only [Act.put, List.setIfInBounds_toArray, List.set_cons_zero, List.set_cons_succ]
      refine upto_last (by kernel_rfl) rfl (by kernel_rfl) (fun K hK => ?_)
      have e3 := (c5_cells (k := jk) (f := jf) (t := jt) (A := jA) (K := jK) HD.p).2.2.2.1
      have f3 := HD.p.frozen 3
      have pl := HD.p.lt
      clear hHeld
      go_simp
      refine hK.out _ _ ?_
      clear hK K
      have HD9 := Lib.hid (HD.set (by omega) (by omega) (by omega) 3 (.slice A2 (jns ++ [x]).length ca2))
      have HL9 : Hid (LimJ 1048576 (.mk jk jf jt (jns ++ [x]) jkids)) := .mk jk jf jt (jns ++ [x]) jkids (by have := HL5.out.1; omega) (by simp; omega) (fun n hn => by
        rcases List.mem_append.1 hn with h | h
        · have := HL5.out.2.2.1 n h; omega
        · simp at h; subst h; omega) (by have := HL5.out.2.2.2.1; omega) (fun p hp => (HL5.out.2.2.2.2 p hp).up (by decide))
      have HC9 := Lib.hid ((HC9.out jk jf jt).mv' (w' := w9.setCell ⟨w4.heap.size, 3, none⟩ (.slice A2 (jns ++ [x]).length ca2)) (F' := fun b => w.heap.size < b ∧ b ≠ w4.heap.size) fun b hb hl => ⟨Below.heap_setCell _ _ _ b hb.2, by omega, hb.2⟩)
      clear e3 f3 pl HD HJ
      have hnl2 : (jns ++ [x]).length = jns.length + 1 := by simp
      have HDL : Hid (CJ w w.heap.size w4.heap.size B g (N + 40000) (c5 0 false ⟨#[]⟩ none 0 0 none 0 0) (c5 jk jf jt A2 (jns ++ [x]).length ca2 jK jkids.length jkc) (w9.setCell ⟨w4.heap.size, 3, none⟩ (.slice A2 (jns ++ [x]).length ca2))) := HD9.out.mono (by omega)
      clear HD9
      rw [← hnl2]
      clear hnl2
      generalize jns ++ [x] = ns2 at *
      generalize w9.setCell ⟨w4.heap.size, 3, none⟩ (.slice A2 ns2.length ca2) = wz at *
      go_wp2_with fail
      go_meet
      exact ⟨jk, jf, jt, ns2, jkids, A2, jK, ca2, jkc, HC9, HL9, HDL⟩
    have q2 : (u == 2) = false := by simp [u2]
    by_cases u3 : u = 3
    · have q3 : (u == 3) = true := by simp [u3]
      clear u0 u1 u2 u3 hu0 hu1
      go_wp2_with fail
      refine (pick_any B g (N + 30001) 8 w6 HJ.rd (by omega) (by omega) (by omega)).mono ?_
      rintro e w7 ⟨x, rfl, hx0, hx1, hrd7, hg7⟩
      replace HJ := HJ.touch hg7 hrd7
      clear hrd7 hg7
      have HJC7 : Hid (JsC w7 (fun b => w.heap.size < b ∧ b ≠ w4.heap.size) (c5 jk jf jt jA jns.length jca jK jkids.length jkc) (.mk jk jf jt jns jkids)) := HJC.out _ _ _ _ HJ.fr
      have HL7 : Hid (LimJ 1000 (.mk jk jf jt jns jkids)) := HL4.out
      go_wp2
      go_loopw [4] (fun c wr => ∃ (i : Nat) (k : Int) (f : Bool) (t : ByteArray) (ns : List ByteArray) (kids : List Js) (A K : Option Addr) (ca kc : Nat), c = .int .i64 i ∧ i ≤ 8 ∧ Hid (JsC wr (fun b => w.heap.size < b ∧ b ≠ w4.heap.size) (c5 k f t A ns.length ca K kids.length kc) (.mk k f t ns kids)) ∧ Hid (LimJ 1000 (.mk k f t ns kids)) ∧ Hid (JJ w4 B g (N + 30002) (c5 k f t A ns.length ca K kids.length kc) wr)) (fun c _ => (intOf c).toNat)
      case atStart => exact ⟨x.toNat, jk, jf, jt, jns, jkids, jA, jK, jca, jkc, by go_num, by omega, HJC7, HL7, HJ⟩
      case round =>
        clear HJ
        obtain ⟨i, k, f, t, ns, kids, A, K, ca, kc, rfl, hi8, HV, HLI, HJI⟩ := hrel
        have HJ := HJI.out
        clear HJI
        by_cases hi1 : 0 < i
        · have hi2 : (0 : Int) < (i : Int) := by omega
          obtain ⟨p0, p1, p2, p3, p4⟩ := c5_cells HJ.p
          have pl := HJ.lt
          have HJa := HJ.alloc (.cells #[.int .i64 k, .bool f, .string t, .slice A ns.length ca, .slice K kids.length kc] 26)
          have f0 := HJ.p.frozen 0
          have f1 := HJ.p.frozen 1
          have f2 := HJ.p.frozen 2
          have f3 := HJ.p.frozen 3
          have f4 := HJ.p.frozen 4
          have HV9 := (HV.out.wrap (F := fun b => w.heap.size < b ∧ b ≠ w4.heap.size) ⟨by omega, by omega⟩).mv (w' := five (wr.alloc (.cells #[.int .i64 k, .bool f, .string t, .slice A ns.length ca, .slice K kids.length kc] 26)) w4.heap.size (.int .i64 5) (.bool false) (.string ⟨#[]⟩) (.slice none 0 0) (.slice (some ⟨wr.heap.size, 0, none⟩) 1 1)) fun b hb _ => five_other _ _ _ _ _ b hb.2
          have HJ9 := ((((HJa.set 0 (.int .i64 5)).set 1 (.bool false)).set 2 (.string ⟨#[]⟩)).set 3 (.slice none 0 0)).set 4 (.slice (some ⟨wr.heap.size, 0, none⟩) 1 1)
          simp only [five] at HV9
          rw [World.setCell_alloc_past _ _ _ _ pl, World.setCell_alloc_past _ _ _ _ (by simpa using pl), World.setCell_alloc_past _ _ _ _ (by simpa using pl), World.setCell_alloc_past _ _ _ _ (by simpa using pl), World.setCell_alloc_past _ _ _ _ (by simpa using pl)] at HV9 HJ9
          have HV9 := Lib.hid HV9
          have HJ9 := Lib.hid HJ9
          clear HJa
          go_wp2
          go_roundw
          case rel => exact ⟨i - 1, 5, false, ⟨#[]⟩, [], [.mk k f t ns kids], none, some ⟨wr.heap.size, 0, none⟩, 0, 1, by go_num, by omega, HV9, .mk 5 false _ [] [_] (by decide) (by simp) (by simp) (by simp) (by simpa using HLI.out), HJ9⟩
          case measure => simp [intOf]; omega
        · have hi2 : ¬ (0 : Int) < (i : Int) := by omega
          go_wp2_with fail
          go_meet
          exact ⟨k, f, t, ns, kids, A, K, ca, kc, HV, HLI.out.up (by decide), HCUT.out _ _ _ (by omega) HJ⟩
    have q3 : (u == 3) = false := by simp [u3]
    by_cases u4 : u = 4
    · have q4 : (u == 4) = true := by simp [u4]
      clear u0 u1 u2 u3 u4 hu0 hu1
      go_wp2_with fail
      refine (pick_any B g (N + 30001) 6 w6 HJ.rd (by omega) (by omega) (by omega)).mono ?_
      rintro e w7 ⟨x, rfl, hx0, hx1, hrd7, hg7⟩
      replace HJ := HJ.touch hg7 hrd7
      clear hrd7 hg7
      obtain ⟨y, rfl⟩ := Int.eq_ofNat_of_zero_le hx0
      have hy6 : y ≤ 5 := by rcases hx1 with h | h <;> omega
      clear hx0 hx1
      go_wp2_with (refine wpList_make_full _ rfl _ _ 24 rfl w7.heap.size 26 i0 (.agg #[.int .i64 0, .bool false, .string ⟨#[]⟩, .slice none 0 0, .slice none 0 0]) 5 Tryd.underlying24 HIJ.out.1 HIJ.out.2.1 HIJ.out.2.2.1 .i64 .i64 (36 + (y : Int)) (36 + (y : Int)) (36 + y) rfl rfl (by omega) (by omega) (by rw [HIJ.out.2.2.2]; omega) (by unfold maxLen; omega) (Nat.le_refl _) ?_)
      intro w8 hown8 hgr8
      have hn41 : 36 + y ≤ 41 := by omega
      have hn36 : 36 ≤ 36 + y := by omega
      have HO := Lib.hid (own_of_row hown8)
      have HM := Lib.hid (Null5.start (36 + y))
      generalize 36 + y = n at *
      clear hy6
      have hl7 := HJ.lt
      replace HJ := HJ.grew hgr8
      have hl8 := HO.out.lt
      clear hown8 hgr8
      generalize (madeCells #[.int .i64 0, .bool false, .string ⟨#[]⟩, .slice none 0 0, .slice none 0 0] (n * 5)).toList = L at *
      obtain ⟨M, hM⟩ : ∃ M, w7.heap.size = M := ⟨_, rfl⟩
      rw [hM] at HO hl7 hl8
      simp only [hM]
      clear hM
      obtain ⟨p0, p1, p2, p3, p4⟩ := c5_cells (k := jk) (f := jf) (t := jt) (A := jA) (K := jK) HJ.p
      have f0 := HJ.p.frozen 0
      have f1 := HJ.p.frozen 1
      have f2 := HJ.p.frozen 2
      have f3 := HJ.p.frozen 3
      have f4 := HJ.p.frozen 4
      have pl := HJ.lt
      have HJ9 := Lib.hid (((((HJ.set 0 (.int .i64 5)).set 1 (.bool false)).set 2 (.string ⟨#[]⟩)).set 3 (.slice none 0 0)).set 4 (.slice (some ⟨M, 0, none⟩) n n))
      have HO9 : Hid (Own (five w8 w4.heap.size (.int .i64 5) (.bool false) (.string ⟨#[]⟩) (.slice none 0 0) (.slice (some ⟨M, 0, none⟩) n n)) M 26 L) := (five_other _ _ _ _ _ M (by omega)).trans HO.out
      clear HJ HO
      go_wp2
      go_loopw [5] (fun c wr => ∃ (i : Nat) (L : List Value), c = .int .i64 i ∧ i ≤ n ∧ Hid (Null5 n i L) ∧ Hid (Own wr M 26 L) ∧ Hid (JJ w4 B g (N + 30002) (c5 5 false ⟨#[]⟩ none 0 0 (some ⟨M, 0, none⟩) n n) wr)) (fun c _ => n - (intOf c).toNat)
      case atStart => exact ⟨0, L, rfl, Nat.zero_le _, HM, HO9, HJ9⟩
      case round =>
        clear HM HO9 HJ9
        obtain ⟨i, L, rfl, hin, HM, HO, HJI⟩ := hrel
        by_cases hi : i < n
        · have hi2 : (i : Int) < (n : Int) := by omega
          have p4 := (c5_cells HJI.out.p).2.2.2.2
          obtain ⟨v0, hv0⟩ : ∃ v, wr.cell? ⟨M, i * 5, none⟩ = some v := ⟨_, HO.out.cell_ (by have := HM.out.len; omega)⟩
          have f0 := HO.out.frozen (i * 5)
          have HM2 := Lib.hid (HM.out.next hi)
          have HO2 := Lib.hid (HO.out.set_ (i * 5) (.int .i64 1))
          have HJ2 := Lib.hid (HJI.out.far hl7 (i * 5) (.int .i64 1))
          have pl := HO.out.lt
          clear HM HO HJI
          go_wp2
          go_roundw
          case rel => exact ⟨i + 1, _, by go_num, by omega, HM2, HO2, HJ2⟩
          case measure => simp [intOf]; omega
        · have hi2 : ¬ (i : Int) < (n : Int) := by omega
          have p4 := (c5_cells HJI.out.p).2.2.2.2
          go_wp2_with fail
          go_meet
          obtain ⟨kids, hk⟩ : ∃ kids, kids = List.replicate n (Js.mk 1 false ⟨#[]⟩ [] []) := ⟨_, rfl⟩
          have hkl : kids.length = n := by rw [hk]; simp
          have hjc := HCUT.out _ _ _ (by omega) HJI.out
          have HLK : Hid (LimJ 1048576 (.mk 5 false ⟨#[]⟩ [] kids)) := .mk 5 false ⟨#[]⟩ [] kids (by decide) (by simp) (by simp) (by omega) (fun p hp => by
            rw [hk] at hp
            obtain rfl := List.eq_of_mem_replicate hp
            exact .mk 1 false ⟨#[]⟩ [] [] (by decide) (by simp) (by simp) (by simp) (by simp))
          have hc5 : c5 5 false ⟨#[]⟩ none 0 0 (some ⟨M, 0, none⟩) n n = c5 5 false ⟨#[]⟩ none 0 0 (some ⟨M, 0, none⟩) kids.length n := by rw [hkl]
          exact ⟨5, false, ⟨#[]⟩, [], kids, none, some ⟨M, 0, none⟩, 0, n, HM.out.jsC (by omega) HO.out ⟨by omega, by omega⟩ hk, HLK, hc5 ▸ hjc⟩
    have q4 : (u == 4) = false := by simp [u4]
    go_wp2_with fail
    go_meet
    exact ⟨jk, jf, jt, jns, jkids, jA, jK, jca, jkc, HJC.out _ _ _ _ HJ.fr, HL4.out.up (by decide), HCUT.out _ _ _ (by omega) HJ⟩
  case rest =>
    obtain ⟨k, f, t, ns, kids, A, K, ca, kc, HV, HL, HJo⟩ := hcut
    have HJ := HJo.out
    clear HJo
    have hr := HJ.r
    obtain ⟨p0, p1, p2, p3, p4⟩ := c5_cells HJ.p
    obtain ⟨r0, r1, r2, r3, r4⟩ := c5_cells hr
    have f0 := hr.frozen 0
    have f1 := hr.frozen 1
    have f2 := hr.frozen 2
    have f3 := hr.frozen 3
    have f4 := hr.frozen 4
    have rl := hr.lt
    have pl := HJ.p.lt
    have HRR := Lib.hid hr
    clear hr
    go_wp2
    obtain ⟨q0, q1, q2, q3, q4⟩ := c5_cells (five_cells HRR.out rfl k f t A K ns.length ca kids.length kc)
    simp only [five] at q0 q1 q2 q3 q4
    have HV9 := (HV.out.mv (w' := five wc w.heap.size (.int .i64 k) (.bool f) (.string t) (.slice A ns.length ca) (.slice K kids.length kc)) fun b hb _ => five_other _ _ _ _ _ b (by omega)).mono (F' := fun b => w.heap.size ≤ b) fun b hb _ => by omega
    exact bodyPost_ret (v := .agg (c5 k f t A ns.length ca K kids.length kc).toArray) (by simp [results, Tryd.results22, go_sem, q0, q1, q2, q3, q4, c5]) rfl
      ⟨k, f, t, ns, kids, A, K, ca, kc, rfl, HV9, HL.out, HJ.rd.keep fun z hz => five_other _ _ _ _ _ z (by omega), five_grown HJ.fr (Nat.le_refl _) _ _ _ _ _⟩

end Go.Proofs.YtmmafhibojipjaaDoor
