/- The walk of the law FnExactSchemaFits: it returns true for all schemas and values, and writes nothing that was there. (written by gen_sxf.py) -/
import Derived.Test.YtkhcappjhefkjaaGreatDoorE5
import Derived.Test.YtkhcappjhefkjaaGreatDoorS3
import Derived.Test.YtkhcappjhefkjaaGreatDoorJ3
namespace Go.Proofs.YtkhcappjhefkjaaGreatDoor
open Go.RowKit
set_option linter.unusedVariables false

theorem Own.six {w : World} {g : Nat} {T : TypeId} {a b c d e f : Value} (h : Own w g T [a, b, c, d, e, f]) : w.cell? ⟨g, 0, none⟩ = some a ∧ w.cell? ⟨g, 1, none⟩ = some b ∧ w.cell? ⟨g, 2, none⟩ = some c ∧ w.cell? ⟨g, 3, none⟩ = some d ∧ w.cell? ⟨g, 4, none⟩ = some e ∧ w.cell? ⟨g, 5, none⟩ = some f :=
  ⟨by rw [h.cell]; rfl, by rw [h.cell]; rfl, by rw [h.cell]; rfl, by rw [h.cell]; rfl, by rw [h.cell]; rfl, by rw [h.cell]; rfl⟩
theorem Own.five {w : World} {g : Nat} {T : TypeId} {a b c d e : Value} (h : Own w g T [a, b, c, d, e]) : w.cell? ⟨g, 0, none⟩ = some a ∧ w.cell? ⟨g, 1, none⟩ = some b ∧ w.cell? ⟨g, 2, none⟩ = some c ∧ w.cell? ⟨g, 3, none⟩ = some d ∧ w.cell? ⟨g, 4, none⟩ = some e :=
  ⟨by rw [h.cell]; rfl, by rw [h.cell]; rfl, by rw [h.cell]; rfl, by rw [h.cell]; rfl, by rw [h.cell]; rfl⟩

set_option maxRecDepth 100000 in
set_option maxHeartbeats 8000000 in
theorem fnExactSchemaFits_walk (k mn mx : Int) (ns : List ByteArray) (ms : List Bool) (kids : List Sc) (A M KA : Option Addr) (ca ma kc : Nat) (jk : Int) (jf : Bool) (jt : ByteArray) (jns : List ByteArray) (jkids : List Js) (jA jK : Option Addr) (jca jkc : Nat) (w : World) (hv : ScV w 0 ns ms kids A M KA) (hl : LimS maxLen (.mk k mn mx ns ms kids)) (hvj : JsV w 0 jns jkids jA jK) (hlj : LimJ maxLen (.mk jk jf jt jns jkids)) :
    Calls Tryz.prog 4 #[.agg #[.int .i64 k, .int .i64 mn, .int .i64 mx, .slice A ns.length ca, .slice M ms.length ma, .slice KA kids.length kc], .agg #[.int .i64 jk, .bool jf, .string jt, .slice jA jns.length jca, .slice jK jkids.length jkc]] w (fun e w' => e = .returned (.bool true) ∧ Below w.heap.size w w') := by
  obtain ⟨W0, hW0⟩ : ∃ W0, (w.alloc (.cells #[.int .i64 k, .int .i64 mn, .int .i64 mx, .slice A ns.length ca, .slice M ms.length ma, .slice KA kids.length kc] 26)).alloc (.cells #[.int .i64 jk, .bool jf, .string jt, .slice jA jns.length jca, .slice jK jkids.length jkc] 37) = W0 := ⟨_, rfl⟩
  have HBX : Hid (Below w.heap.size w W0) := by rw [← hW0]; exact (below_box _).alloc (by simp) _
  have O1 : Hid (Own W0 w.heap.size 26 [.int .i64 k, .int .i64 mn, .int .i64 mx, .slice A ns.length ca, .slice M ms.length ma, .slice KA kids.length kc]) := by rw [← hW0]; exact (Own.new w 26 #[.int .i64 k, .int .i64 mn, .int .i64 mx, .slice A ns.length ca, .slice M ms.length ma, .slice KA kids.length kc]).alloc _
  have P1 : Hid (Own W0 (w.heap.size + 1) 37 [.int .i64 jk, .bool jf, .string jt, .slice jA jns.length jca, .slice jK jkids.length jkc]) := by
    rw [← hW0]
    have := Own.new (w.alloc (.cells #[.int .i64 k, .int .i64 mn, .int .i64 mx, .slice A ns.length ca, .slice M ms.length ma, .slice KA kids.length kc] 26)) 37 #[.int .i64 jk, .bool jf, .string jt, .slice jA jns.length jca, .slice jK jkids.length jkc]
    rw [World.size_alloc] at this
    exact this
  have HV := Lib.hid hv
  have HVJ := Lib.hid hvj
  have HC0 := Lib.hid (szs_all (htS kids + 1) k mn mx ns ms kids A M KA ca ma kc 0 1048576 W0 (Nat.le_refl _) (hv.keep HBX.out) hl (by omega) (by omega))
  have HLJ := Lib.hid hlj
  have HW := Lib.hid hW0
  clear hv hl hvj hlj hW0
  obtain ⟨s0, s1, s2, s3, s4, s5⟩ := O1.out.six
  have sl := O1.out.lt
  go_enter Tryz.func4, Tryz.ntmps4
  go_upto_region 1 with fail
  rw [HW.out]
  clear HW
  go_wp2_with fail
  refine HC0.out.mono ?_
  rintro e w1 ⟨r, rfl, hr1, hz, hb⟩
  have HB1 := Lib.hid (HBX.out.trans (hb.mono HBX.out.size))
  have O2 := Lib.hid (O1.out.keep hb)
  have P2 := Lib.hid (P1.out.keep hb)
  clear hb HC0 s0 s1 s2 s3 s4 s5 sl O1 P1 HBX
  by_cases hn : r < 0
  · go_wp2
    go_ret
    exact ⟨rfl, HB1.out⟩
  have HS := Lib.hid ((hz.resolve_left hn).2)
  have hr0 : 0 ≤ r := by omega
  clear hz
  have HC1 := Lib.hid (sz_all (htJ jkids + 1) jk jf jt jns jkids jA jK jca jkc 0 r w1 (Nat.le_refl _) (HVJ.out.keep HB1.out) HLJ.out hr0 hr1)
  obtain ⟨s0, s1, s2, s3, s4⟩ := P2.out.five
  have sl := P2.out.lt
  go_wp2_with fail
  refine HC1.out.mono ?_
  rintro e w2 ⟨r2, rfl, hr2, hz, hb⟩
  have HB2 := Lib.hid (HB1.out.trans (hb.mono HB1.out.size))
  have O3 := Lib.hid (O2.out.keep hb)
  have P3 := Lib.hid (P2.out.keep hb)
  clear hb HC1 s0 s1 s2 s3 s4 sl O2 P2 HB1 HLJ
  by_cases hn2 : r2 < 0
  · go_wp2
    go_ret
    exact ⟨rfl, HB2.out⟩
  have HSJ := Lib.hid ((hz.resolve_left hn2).2)
  clear hz
  go_upto_region 8 with fail
  have HBD : Hid (Below w.heap.size w w2.drew) := HB2.out.drew
  have HCD : Hid (∀ X, Below w2.heap.size w2.drew X → (fun X => X.cell? ⟨w.heap.size, 0, none⟩ = some (.int .i64 k) ∧ X.cell? ⟨w.heap.size, 1, none⟩ = some (.int .i64 mn) ∧ X.cell? ⟨w.heap.size, 2, none⟩ = some (.int .i64 mx) ∧ X.cell? ⟨w.heap.size, 3, none⟩ = some (.slice A ns.length ca) ∧ X.cell? ⟨w.heap.size, 4, none⟩ = some (.slice M ms.length ma) ∧ X.cell? ⟨w.heap.size, 5, none⟩ = some (.slice KA kids.length kc) ∧ X.cell? ⟨w.heap.size + 1, 0, none⟩ = some (.int .i64 jk) ∧ X.cell? ⟨w.heap.size + 1, 1, none⟩ = some (.bool jf) ∧ X.cell? ⟨w.heap.size + 1, 2, none⟩ = some (.string jt) ∧ X.cell? ⟨w.heap.size + 1, 3, none⟩ = some (.slice jA jns.length jca) ∧ X.cell? ⟨w.heap.size + 1, 4, none⟩ = some (.slice jK jkids.length jkc)) X) := fun X h => ⟨(((O3.out.drew).keep h).six).1, (((O3.out.drew).keep h).six).2.1, (((O3.out.drew).keep h).six).2.2.1, (((O3.out.drew).keep h).six).2.2.2.1, (((O3.out.drew).keep h).six).2.2.2.2.1, (((O3.out.drew).keep h).six).2.2.2.2.2, (((P3.out.drew).keep h).five).1, (((P3.out.drew).keep h).five).2.1, (((P3.out.drew).keep h).five).2.2.1, (((P3.out.drew).keep h).five).2.2.2.1, (((P3.out.drew).keep h).five).2.2.2.2⟩
  refine wp_region_held_drew (S := (fun X => X.cell? ⟨w.heap.size, 0, none⟩ = some (.int .i64 k) ∧ X.cell? ⟨w.heap.size, 1, none⟩ = some (.int .i64 mn) ∧ X.cell? ⟨w.heap.size, 2, none⟩ = some (.int .i64 mx) ∧ X.cell? ⟨w.heap.size, 3, none⟩ = some (.slice A ns.length ca) ∧ X.cell? ⟨w.heap.size, 4, none⟩ = some (.slice M ms.length ma) ∧ X.cell? ⟨w.heap.size, 5, none⟩ = some (.slice KA kids.length kc) ∧ X.cell? ⟨w.heap.size + 1, 0, none⟩ = some (.int .i64 jk) ∧ X.cell? ⟨w.heap.size + 1, 1, none⟩ = some (.bool jf) ∧ X.cell? ⟨w.heap.size + 1, 2, none⟩ = some (.string jt) ∧ X.cell? ⟨w.heap.size + 1, 3, none⟩ = some (.slice jA jns.length jca) ∧ X.cell? ⟨w.heap.size + 1, 4, none⟩ = some (.slice jK jkids.length jkc))) (by kernel_rfl) ?_ (fun hHeld => ?_)
  · exact HCD.out _ (Below.refl _ _)
  (first
    | (refine held_take (i := 0) (v := ?_) rfl (by kernel_rfl) (by kernel_rfl) (by kernel_rfl) (fun _ _ _ h => h) (Or.inl ⟨rfl, ?_⟩) (by assumption) ?_; rotate_left; (intro X hSw; (try dsimp only at hSw); (go_simp <;> with_reducible rfl)))
    | (refine held_take (i := 0) (v := undef) rfl (by kernel_rfl) (by kernel_rfl) (by kernel_rfl) (fun _ _ _ h => h) (Or.inr ⟨rfl, rfl⟩) (by assumption) ?_)); simp only [Act.put, List.setIfInBounds_toArray, List.set_cons_zero, List.set_cons_succ]
  (first
    | (refine held_take (i := 2) (v := ?_) rfl (by kernel_rfl) (by kernel_rfl) (by kernel_rfl) (fun _ _ _ h => h) (Or.inl ⟨rfl, ?_⟩) (by assumption) ?_; rotate_left; (intro X hSw; (try dsimp only at hSw); (go_simp <;> with_reducible rfl)))
    | (refine held_take (i := 2) (v := undef) rfl (by kernel_rfl) (by kernel_rfl) (by kernel_rfl) (fun _ _ _ h => h) (Or.inr ⟨rfl, rfl⟩) (by assumption) ?_)); simp only [Act.put, List.setIfInBounds_toArray, List.set_cons_zero, List.set_cons_succ]
  refine wpAnyH_ready (rs := [1]) (by kernel_rfl) (by simp) ?_
  refine AllReadyH.cons rfl (fun K hK => ?_) AllReadyH.nil
  go_simp
  refine (tos_all (htS kids + 1) k mn mx ns ms kids A M KA ca ma kc 0 _ (Nat.le_refl _) (HV.out.keep HBD.out) HS.out).mono ?_
  rintro e w3 ⟨A2, M2, K2, rfl, hA2, hb⟩
  have HD3 : Hid (Below w2.heap.size w2.drew w3) := hb
  have HB3 := Lib.hid (HBD.out.trans (hb.mono HBD.out.size))
  have HA2 := Lib.hid hA2
  clear hb hA2 hHeld
  refine hK.out _ _ ?_ (fun hHeld => ?_)
  · exact HCD.out _ HD3.out
  clear hK K
  refine wpAnyH_ready (rs := [3]) (by kernel_rfl) (by simp) ?_
  refine AllReadyH.cons rfl (fun K hK => ?_) AllReadyH.nil
  go_simp
  refine (to_all (htJ jkids + 1) jk jf jt jns jkids jA jK jca jkc 0 _ (Nat.le_refl _) (HVJ.out.keep HB3.out) HSJ.out).mono ?_
  rintro e w4 ⟨A3, K3, rfl, hA3, hb⟩
  have HD4 : Hid (Below w2.heap.size w2.drew w4) := HD3.out.trans (hb.mono HD3.out.size)
  have HB4 := Lib.hid (HB3.out.trans (hb.mono HB3.out.size))
  have HA3 := Lib.hid hA3
  have HA4 := Lib.hid (HA2.out.keep hb)
  clear hb hA3 hHeld HA2 HD3
  refine hK.out _ _ ?_ (fun hHeld => ?_)
  · exact HCD.out _ HD4.out
  clear hK K
  refine wpAnyH_ready (rs := [4]) (by kernel_rfl) (by simp) ?_
  refine AllReadyH.cons rfl (fun K hK => ?_) AllReadyH.nil
  go_simp
  refine (specFits_any k mn mx ns ms kids A2 M2 K2 ns.length ms.length kids.length _ jk jf jt jns jkids A3 K3 jns.length jkids.length _ w4 HA4.out HS.out HA3.out HSJ.out).mono ?_
  rintro e w5 ⟨q1, rfl, hq1, hb⟩
  have HD5 : Hid (Below w2.heap.size w2.drew w5) := HD4.out.trans (hb.mono HD4.out.size)
  have HB5 := Lib.hid (HB4.out.trans (hb.mono HB4.out.size))
  have HQ1 := Lib.hid hq1
  clear hb hq1 hHeld HA3 HA4 HD4
  refine hK.out _ _ ?_ (fun hHeld => ?_)
  · exact HCD.out _ HD5.out
  clear hK K
  (first
    | (refine held_take (i := 5) (v := ?_) rfl (by kernel_rfl) (by kernel_rfl) (by kernel_rfl) (fun _ _ _ h => h) (Or.inl ⟨rfl, ?_⟩) (by assumption) ?_; rotate_left; (intro X hSw; (try dsimp only at hSw); (go_simp <;> with_reducible rfl)))
    | (refine held_take (i := 5) (v := undef) rfl (by kernel_rfl) (by kernel_rfl) (by kernel_rfl) (fun _ _ _ h => h) (Or.inr ⟨rfl, rfl⟩) (by assumption) ?_)); simp only [Act.put, List.setIfInBounds_toArray, List.set_cons_zero, List.set_cons_succ]
  refine wpAnyH_done (by kernel_rfl) ?_ _
  have O5 := Lib.hid ((O3.out.drew).keep HD5.out)
  have P5 := Lib.hid ((P3.out.drew).keep HD5.out)
  clear O3 P3 HD5 HCD HBD HB2 HB3 HB4
  obtain ⟨s0, s1, s2, s3, s4, s5⟩ := O5.out.six
  have sl := O5.out.lt
  go_wp2_with fail
  refine (tos_all (htS kids + 1) k mn mx ns ms kids A M KA ca ma kc 0 w5 (Nat.le_refl _) (HV.out.keep HB5.out) HS.out).mono ?_
  rintro e w6 ⟨A4, M4, K4, rfl, hA4, hb⟩
  have hbx : Below w6.heap.size w6 (w6.alloc (.cells #[.int .i64 k, .int .i64 mn, .int .i64 mx, .slice A4 ns.length ns.length, .slice M4 ms.length ms.length, .slice K4 kids.length kids.length] 31)) := below_box _
  have HA4 := Lib.hid (hA4.keep hbx)
  have HB6 := Lib.hid ((HB5.out.trans (hb.mono HB5.out.size)).trans (hbx.mono (HB5.out.trans (hb.mono HB5.out.size)).size))
  have O6 := Lib.hid ((O5.out.keep hb).keep hbx)
  have P6 := Lib.hid ((P5.out.keep hb).keep hbx)
  have X6 : Hid (Own (w6.alloc (.cells #[.int .i64 k, .int .i64 mn, .int .i64 mx, .slice A4 ns.length ns.length, .slice M4 ms.length ms.length, .slice K4 kids.length kids.length] 31)) w6.heap.size 31 [.int .i64 k, .int .i64 mn, .int .i64 mx, .slice A4 ns.length ns.length, .slice M4 ms.length ms.length, .slice K4 kids.length kids.length]) := Own.new w6 31 #[.int .i64 k, .int .i64 mn, .int .i64 mx, .slice A4 ns.length ns.length, .slice M4 ms.length ms.length, .slice K4 kids.length kids.length]
  clear hb hbx hA4 s0 s1 s2 s3 s4 s5 sl O5 P5 HB5
  go_upto_region 10 with fail
  obtain ⟨X0, hX0⟩ : ∃ X0, w6.heap.size = X0 := ⟨_, rfl⟩
  generalize w6.alloc (.cells #[.int .i64 k, .int .i64 mn, .int .i64 mx, .slice A4 ns.length ns.length, .slice M4 ms.length ms.length, .slice K4 kids.length kids.length] 31) = W6 at *
  rw [hX0] at X6 ⊢
  clear hX0
  obtain ⟨s0, s1, s2, s3, s4⟩ := P6.out.five
  have sl := P6.out.lt
  go_wp2_with fail
  refine (to_all (htJ jkids + 1) jk jf jt jns jkids jA jK jca jkc 0 W6 (Nat.le_refl _) (HVJ.out.keep HB6.out) HSJ.out).mono ?_
  rintro e w7 ⟨A5, K5, rfl, hA5, hb⟩
  have hbx : Below w7.heap.size w7 (w7.alloc (.cells #[.int .i64 jk, .bool jf, .string jt, .slice A5 jns.length jns.length, .slice K5 jkids.length jkids.length] 42)) := below_box _
  have HA5 := Lib.hid (hA5.keep hbx)
  have HB7 := Lib.hid ((HB6.out.trans (hb.mono HB6.out.size)).trans (hbx.mono (HB6.out.trans (hb.mono HB6.out.size)).size))
  have O7 := Lib.hid ((O6.out.keep hb).keep hbx)
  have P7 := Lib.hid ((P6.out.keep hb).keep hbx)
  have X7 := Lib.hid ((X6.out.keep hb).keep hbx)
  have HA7 := Lib.hid ((HA4.out.keep hb).keep hbx)
  have Y7 : Hid (Own (w7.alloc (.cells #[.int .i64 jk, .bool jf, .string jt, .slice A5 jns.length jns.length, .slice K5 jkids.length jkids.length] 42)) w7.heap.size 42 [.int .i64 jk, .bool jf, .string jt, .slice A5 jns.length jns.length, .slice K5 jkids.length jkids.length]) := Own.new w7 42 #[.int .i64 jk, .bool jf, .string jt, .slice A5 jns.length jns.length, .slice K5 jkids.length jkids.length]
  clear hb hbx hA5 s0 s1 s2 s3 s4 sl O6 P6 X6 HA4 HB6
  go_upto_region 11 with fail
  obtain ⟨X1, hX1⟩ : ∃ X1, w7.heap.size = X1 := ⟨_, rfl⟩
  generalize w7.alloc (.cells #[.int .i64 jk, .bool jf, .string jt, .slice A5 jns.length jns.length, .slice K5 jkids.length jkids.length] 42) = W7 at *
  rw [hX1] at Y7 ⊢
  clear hX1
  obtain ⟨s0, s1, s2, s3, s4, s5⟩ := X7.out.six
  obtain ⟨t0, t1, t2, t3, t4⟩ := Y7.out.five
  have sl := X7.out.lt
  have tl := Y7.out.lt
  go_wp2_with fail
  refine (implFits_any k mn mx ns ms kids A4 M4 K4 ns.length ms.length kids.length _ jk jf jt jns jkids A5 K5 jns.length jkids.length _ W7 HA7.out HS.out (Nat.le_refl _) HA5.out HSJ.out (Nat.le_refl _)).mono ?_
  rintro e w8 ⟨q2, rfl, hq2, hb⟩
  have hqq : q2 = q1 := by
    have a1 := HQ1.out
    cases q1 <;> cases q2
    · rfl
    · exact absurd (a1.2 (hq2.1 rfl)) (by simp)
    · exact absurd (hq2.2 (a1.1 rfl)) (by simp)
    · rfl
  subst hqq
  have e1 : (q2 != q2) = false := by simp
  have HB8 := Lib.hid (HB7.out.trans (hb.mono HB7.out.size))
  have O8 := Lib.hid (O7.out.keep hb)
  have P8 := Lib.hid (P7.out.keep hb)
  have X8 := Lib.hid (X7.out.keep hb)
  have Y8 := Lib.hid (Y7.out.keep hb)
  have HA8 := Lib.hid (HA7.out.keep hb)
  have HJ8 := Lib.hid (HA5.out.keep hb)
  clear hb hq2 HQ1 s0 s1 s2 s3 s4 s5 t0 t1 t2 t3 t4 sl tl O7 P7 X7 Y7 HA7 HA5 HB7
  go_upto_region 14 with fail
  have HBD : Hid (Below w.heap.size w w8.drew) := HB8.out.drew
  have HCD : Hid (∀ X, Below w8.heap.size w8.drew X → (fun X => X.cell? ⟨X0, 0, none⟩ = some (.int .i64 k) ∧ X.cell? ⟨X0, 1, none⟩ = some (.int .i64 mn) ∧ X.cell? ⟨X0, 2, none⟩ = some (.int .i64 mx) ∧ X.cell? ⟨X0, 3, none⟩ = some (.slice A4 ns.length ns.length) ∧ X.cell? ⟨X0, 4, none⟩ = some (.slice M4 ms.length ms.length) ∧ X.cell? ⟨X0, 5, none⟩ = some (.slice K4 kids.length kids.length) ∧ X.cell? ⟨w.heap.size, 0, none⟩ = some (.int .i64 k) ∧ X.cell? ⟨w.heap.size, 1, none⟩ = some (.int .i64 mn) ∧ X.cell? ⟨w.heap.size, 2, none⟩ = some (.int .i64 mx) ∧ X.cell? ⟨w.heap.size, 3, none⟩ = some (.slice A ns.length ca) ∧ X.cell? ⟨w.heap.size, 4, none⟩ = some (.slice M ms.length ma) ∧ X.cell? ⟨w.heap.size, 5, none⟩ = some (.slice KA kids.length kc)) X) := fun X h => ⟨(((X8.out.drew).keep h).six).1, (((X8.out.drew).keep h).six).2.1, (((X8.out.drew).keep h).six).2.2.1, (((X8.out.drew).keep h).six).2.2.2.1, (((X8.out.drew).keep h).six).2.2.2.2.1, (((X8.out.drew).keep h).six).2.2.2.2.2, (((O8.out.drew).keep h).six).1, (((O8.out.drew).keep h).six).2.1, (((O8.out.drew).keep h).six).2.2.1, (((O8.out.drew).keep h).six).2.2.2.1, (((O8.out.drew).keep h).six).2.2.2.2.1, (((O8.out.drew).keep h).six).2.2.2.2.2⟩
  refine wp_region_held_drew (S := (fun X => X.cell? ⟨X0, 0, none⟩ = some (.int .i64 k) ∧ X.cell? ⟨X0, 1, none⟩ = some (.int .i64 mn) ∧ X.cell? ⟨X0, 2, none⟩ = some (.int .i64 mx) ∧ X.cell? ⟨X0, 3, none⟩ = some (.slice A4 ns.length ns.length) ∧ X.cell? ⟨X0, 4, none⟩ = some (.slice M4 ms.length ms.length) ∧ X.cell? ⟨X0, 5, none⟩ = some (.slice K4 kids.length kids.length) ∧ X.cell? ⟨w.heap.size, 0, none⟩ = some (.int .i64 k) ∧ X.cell? ⟨w.heap.size, 1, none⟩ = some (.int .i64 mn) ∧ X.cell? ⟨w.heap.size, 2, none⟩ = some (.int .i64 mx) ∧ X.cell? ⟨w.heap.size, 3, none⟩ = some (.slice A ns.length ca) ∧ X.cell? ⟨w.heap.size, 4, none⟩ = some (.slice M ms.length ma) ∧ X.cell? ⟨w.heap.size, 5, none⟩ = some (.slice KA kids.length kc))) (by kernel_rfl) ?_ (fun hHeld => ?_)
  · exact HCD.out _ (Below.refl _ _)
  (first
    | (refine held_take (i := 0) (v := ?_) rfl (by kernel_rfl) (by kernel_rfl) (by kernel_rfl) (fun _ _ _ h => h) (Or.inl ⟨rfl, ?_⟩) (by assumption) ?_; rotate_left; (intro X hSw; (try dsimp only at hSw); (go_simp <;> with_reducible rfl)))
    | (refine held_take (i := 0) (v := undef) rfl (by kernel_rfl) (by kernel_rfl) (by kernel_rfl) (fun _ _ _ h => h) (Or.inr ⟨rfl, rfl⟩) (by assumption) ?_)); simp only [Act.put, List.setIfInBounds_toArray, List.set_cons_zero, List.set_cons_succ]
  (first
    | (refine held_take (i := 1) (v := ?_) rfl (by kernel_rfl) (by kernel_rfl) (by kernel_rfl) (fun _ _ _ h => h) (Or.inl ⟨rfl, ?_⟩) (by assumption) ?_; rotate_left; (intro X hSw; (try dsimp only at hSw); (go_simp <;> with_reducible rfl)))
    | (refine held_take (i := 1) (v := undef) rfl (by kernel_rfl) (by kernel_rfl) (by kernel_rfl) (fun _ _ _ h => h) (Or.inr ⟨rfl, rfl⟩) (by assumption) ?_)); simp only [Act.put, List.setIfInBounds_toArray, List.set_cons_zero, List.set_cons_succ]
  refine wpAnyH_ready (rs := [2]) (by kernel_rfl) (by simp) ?_
  refine AllReadyH.cons rfl (fun K hK => ?_) AllReadyH.nil
  go_simp
  refine (tos_all (htS kids + 1) k mn mx ns ms kids A M KA ca ma kc 0 _ (Nat.le_refl _) (HV.out.keep HBD.out) HS.out).mono ?_
  rintro e w9 ⟨A6, M6, K6, rfl, hA6, hb⟩
  have HD9 : Hid (Below w8.heap.size w8.drew w9) := hb
  have HB9 := Lib.hid (HBD.out.trans (hb.mono HBD.out.size))
  have HA6 := Lib.hid hA6
  clear hb hA6 hHeld
  refine hK.out _ _ ?_ (fun hHeld => ?_)
  · exact HCD.out _ HD9.out
  clear hK K
  refine wpAnyH_ready (rs := [3]) (by kernel_rfl) (by simp) ?_
  refine AllReadyH.cons rfl (fun K hK => ?_) AllReadyH.nil
  go_simp
  refine (eqs_all (htS kids + 1) k mn mx ns ms kids A4 M4 K4 A6 M6 K6 _ _ _ _ _ _ _ _ w9 (Nat.le_refl _) ((HA8.out.keep (Below.refl _ _).drew).keep HD9.out) HA6.out HS.out).mono ?_
  rintro e w10 ⟨rfl, hb⟩
  have HD10 : Hid (Below w8.heap.size w8.drew w10) := HD9.out.trans (hb.mono HD9.out.size)
  have HB10 := Lib.hid (HB9.out.trans (hb.mono HB9.out.size))
  clear hb hHeld HA6 HD9 HB9
  refine hK.out _ _ ?_ (fun hHeld => ?_)
  · exact HCD.out _ HD10.out
  clear hK K
  (first
    | (refine held_take (i := 4) (v := ?_) rfl (by kernel_rfl) (by kernel_rfl) (by kernel_rfl) (fun _ _ _ h => h) (Or.inl ⟨rfl, ?_⟩) (by assumption) ?_; rotate_left; (intro X hSw; (try dsimp only at hSw); (go_simp <;> with_reducible rfl)))
    | (refine held_take (i := 4) (v := undef) rfl (by kernel_rfl) (by kernel_rfl) (by kernel_rfl) (fun _ _ _ h => h) (Or.inr ⟨rfl, rfl⟩) (by assumption) ?_)); simp only [Act.put, List.setIfInBounds_toArray, List.set_cons_zero, List.set_cons_succ]
  refine wpAnyH_done (by kernel_rfl) ?_ _
  have P10 := Lib.hid ((P8.out.drew).keep HD10.out)
  have Y10 := Lib.hid ((Y8.out.drew).keep HD10.out)
  have HJ10 := Lib.hid ((HJ8.out.keep (Below.refl _ _).drew).keep HD10.out)
  clear O8 P8 X8 Y8 HA8 HJ8 HD10 HCD HBD HB8
  go_upto_region 16 with fail
  have HBD : Hid (Below w.heap.size w w10.drew) := HB10.out.drew
  have HCD : Hid (∀ X, Below w10.heap.size w10.drew X → (fun X => X.cell? ⟨X1, 0, none⟩ = some (.int .i64 jk) ∧ X.cell? ⟨X1, 1, none⟩ = some (.bool jf) ∧ X.cell? ⟨X1, 2, none⟩ = some (.string jt) ∧ X.cell? ⟨X1, 3, none⟩ = some (.slice A5 jns.length jns.length) ∧ X.cell? ⟨X1, 4, none⟩ = some (.slice K5 jkids.length jkids.length) ∧ X.cell? ⟨w.heap.size + 1, 0, none⟩ = some (.int .i64 jk) ∧ X.cell? ⟨w.heap.size + 1, 1, none⟩ = some (.bool jf) ∧ X.cell? ⟨w.heap.size + 1, 2, none⟩ = some (.string jt) ∧ X.cell? ⟨w.heap.size + 1, 3, none⟩ = some (.slice jA jns.length jca) ∧ X.cell? ⟨w.heap.size + 1, 4, none⟩ = some (.slice jK jkids.length jkc)) X) := fun X h => ⟨(((Y10.out.drew).keep h).five).1, (((Y10.out.drew).keep h).five).2.1, (((Y10.out.drew).keep h).five).2.2.1, (((Y10.out.drew).keep h).five).2.2.2.1, (((Y10.out.drew).keep h).five).2.2.2.2, (((P10.out.drew).keep h).five).1, (((P10.out.drew).keep h).five).2.1, (((P10.out.drew).keep h).five).2.2.1, (((P10.out.drew).keep h).five).2.2.2.1, (((P10.out.drew).keep h).five).2.2.2.2⟩
  refine wp_region_held_drew (S := (fun X => X.cell? ⟨X1, 0, none⟩ = some (.int .i64 jk) ∧ X.cell? ⟨X1, 1, none⟩ = some (.bool jf) ∧ X.cell? ⟨X1, 2, none⟩ = some (.string jt) ∧ X.cell? ⟨X1, 3, none⟩ = some (.slice A5 jns.length jns.length) ∧ X.cell? ⟨X1, 4, none⟩ = some (.slice K5 jkids.length jkids.length) ∧ X.cell? ⟨w.heap.size + 1, 0, none⟩ = some (.int .i64 jk) ∧ X.cell? ⟨w.heap.size + 1, 1, none⟩ = some (.bool jf) ∧ X.cell? ⟨w.heap.size + 1, 2, none⟩ = some (.string jt) ∧ X.cell? ⟨w.heap.size + 1, 3, none⟩ = some (.slice jA jns.length jca) ∧ X.cell? ⟨w.heap.size + 1, 4, none⟩ = some (.slice jK jkids.length jkc))) (by kernel_rfl) ?_ (fun hHeld => ?_)
  · exact HCD.out _ (Below.refl _ _)
  (first
    | (refine held_take (i := 0) (v := ?_) rfl (by kernel_rfl) (by kernel_rfl) (by kernel_rfl) (fun _ _ _ h => h) (Or.inl ⟨rfl, ?_⟩) (by assumption) ?_; rotate_left; (intro X hSw; (try dsimp only at hSw); (go_simp <;> with_reducible rfl)))
    | (refine held_take (i := 0) (v := undef) rfl (by kernel_rfl) (by kernel_rfl) (by kernel_rfl) (fun _ _ _ h => h) (Or.inr ⟨rfl, rfl⟩) (by assumption) ?_)); simp only [Act.put, List.setIfInBounds_toArray, List.set_cons_zero, List.set_cons_succ]
  (first
    | (refine held_take (i := 1) (v := ?_) rfl (by kernel_rfl) (by kernel_rfl) (by kernel_rfl) (fun _ _ _ h => h) (Or.inl ⟨rfl, ?_⟩) (by assumption) ?_; rotate_left; (intro X hSw; (try dsimp only at hSw); (go_simp <;> with_reducible rfl)))
    | (refine held_take (i := 1) (v := undef) rfl (by kernel_rfl) (by kernel_rfl) (by kernel_rfl) (fun _ _ _ h => h) (Or.inr ⟨rfl, rfl⟩) (by assumption) ?_)); simp only [Act.put, List.setIfInBounds_toArray, List.set_cons_zero, List.set_cons_succ]
  refine wpAnyH_ready (rs := [2]) (by kernel_rfl) (by simp) ?_
  refine AllReadyH.cons rfl (fun K hK => ?_) AllReadyH.nil
  go_simp
  refine (to_all (htJ jkids + 1) jk jf jt jns jkids jA jK jca jkc 0 _ (Nat.le_refl _) (HVJ.out.keep HBD.out) HSJ.out).mono ?_
  rintro e w11 ⟨A7, K7, rfl, hA7, hb⟩
  have HD11 : Hid (Below w10.heap.size w10.drew w11) := hb
  have HB11 := Lib.hid (HBD.out.trans (hb.mono HBD.out.size))
  have HA7 := Lib.hid hA7
  clear hb hA7 hHeld
  refine hK.out _ _ ?_ (fun hHeld => ?_)
  · exact HCD.out _ HD11.out
  clear hK K
  refine wpAnyH_ready (rs := [3]) (by kernel_rfl) (by simp) ?_
  refine AllReadyH.cons rfl (fun K hK => ?_) AllReadyH.nil
  go_simp
  refine (eq_all (htJ jkids + 1) jk jf jt jns jkids A5 K5 A7 K7 _ _ _ _ _ _ w11 (Nat.le_refl _) ((HJ10.out.keep (Below.refl _ _).drew).keep HD11.out) HA7.out HSJ.out).mono ?_
  rintro e w12 ⟨rfl, hb⟩
  have HB12 := Lib.hid (HB11.out.trans (hb.mono HB11.out.size))
  have HD12 : Hid (Below w10.heap.size w10.drew w12) := HD11.out.trans (hb.mono HD11.out.size)
  clear hb hHeld
  refine hK.out _ _ ?_ (fun hHeld => ?_)
  · exact HCD.out _ HD12.out
  clear hK K
  (first
    | (refine held_take (i := 4) (v := ?_) rfl (by kernel_rfl) (by kernel_rfl) (by kernel_rfl) (fun _ _ _ h => h) (Or.inl ⟨rfl, ?_⟩) (by assumption) ?_; rotate_left; (intro X hSw; (try dsimp only at hSw); (go_simp <;> with_reducible rfl)))
    | (refine held_take (i := 4) (v := undef) rfl (by kernel_rfl) (by kernel_rfl) (by kernel_rfl) (fun _ _ _ h => h) (Or.inr ⟨rfl, rfl⟩) (by assumption) ?_)); simp only [Act.put, List.setIfInBounds_toArray, List.set_cons_zero, List.set_cons_succ]
  refine wpAnyH_done (by kernel_rfl) ?_ _
  go_wp2
  go_ret
  exact ⟨rfl, HB12.out⟩

end Go.Proofs.YtkhcappjhefkjaaGreatDoor

