/- The program's method fits of a schema. (written by gen_e3.py) -/
import Derived.Test.YtkhcappjhefkjaaGreatDoorE3
import Derived.Test.YtkhcappjhefkjaaGreatDoorF4
namespace Go.Proofs.YtkhcappjhefkjaaGreatDoor
open Go.RowKit
set_option linter.unusedVariables false

theorem gx1 (w : World) : (Instr.field 92 (.agg #[.func (.func 89) #[] #[], .func (.func 90) #[] #[], .func (.func 91) #[] #[], .func (.func 92) #[] #[]]) 1).run Tryz.prog w = .ok (.func (.func 90) #[] #[]) w := by kernel_rfl
set_option maxRecDepth 100000 in
set_option maxHeartbeats 8000000 in
theorem giK1 {n : Nat} (IH : GiS n) (mn mx : Int) (ns : List ByteArray) (ms : List Bool) (kids : List Sc) (A M KA : Option Addr) (ca ma kc B0 : Nat) (jk : Int) (jf : Bool) (jt : ByteArray) (jns : List ByteArray) (jkids : List Js) (jA jK : Option Addr) (jca jkc B1 : Nat) (w : World) (hh : htS kids ≤ n) (hv : ScV w B0 ns ms kids A M KA) (hl : LimS 1048576 (.mk 1 mn mx ns ms kids)) (hok : SokP (.mk 1 mn mx ns ms kids)) (hvj : JsV w B1 jns jkids jA jK) (hlj : LimJ 1048576 (.mk jk jf jt jns jkids)) (hokj : JokP (.mk jk jf jt jns jkids)) :
    Calls Tryz.prog 49 #[.agg #[.int .i64 1, .int .i64 mn, .int .i64 mx, .slice A ns.length ca, .slice M ms.length ma, .slice KA kids.length kc], .agg #[.int .i64 jk, .bool jf, .string jt, .slice jA jns.length jca, .slice jK jkids.length jkc]] w (BoolPost (FitD (n + 1) (.mk 1 mn mx ns ms kids) (.mk jk jf jt jns jkids)) w) := by
  rw [show FitD (n + 1) (.mk 1 mn mx ns ms kids) (.mk jk jf jt jns jkids) = (jk = 1) from propext fitD1]
  obtain ⟨Q, hQ⟩ : ∃ Q : Prop, Q ↔ (jk = 1) := ⟨_, Iff.rfl⟩
  rw [show (jk = 1) = Q from (propext hQ).symm]
  have HQ := Lib.hid hQ
  obtain ⟨W0, hW0⟩ : ∃ W0, (w.alloc (.cells #[.int .i64 1, .int .i64 mn, .int .i64 mx, .slice A ns.length ca, .slice M ms.length ma, .slice KA kids.length kc] 31)).alloc (.cells #[.int .i64 jk, .bool jf, .string jt, .slice jA jns.length jca, .slice jK jkids.length jkc] 42) = W0 := ⟨_, rfl⟩
  have HBX : Hid (Below w.heap.size w W0) := by rw [← hW0]; exact (below_box _).alloc (by simp) _
  have HOS : Hid (Own W0 w.heap.size 31 (c6 1 mn mx A ns.length ca M ms.length ma KA kids.length kc)) := by rw [← hW0]; exact (Own.new w 31 #[.int .i64 1, .int .i64 mn, .int .i64 mx, .slice A ns.length ca, .slice M ms.length ma, .slice KA kids.length kc]).alloc _
  have HOJ : Hid (Own W0 (w.heap.size + 1) 42 (c5 jk jf jt jA jns.length jca jK jkids.length jkc)) := by
    rw [← hW0]
    have := Own.new (w.alloc (.cells #[.int .i64 1, .int .i64 mn, .int .i64 mx, .slice A ns.length ca, .slice M ms.length ma, .slice KA kids.length kc] 31)) 42 #[.int .i64 jk, .bool jf, .string jt, .slice jA jns.length jca, .slice jK jkids.length jkc]
    rw [World.size_alloc] at this
    exact this
  have HV := Lib.hid (hv.keep HBX.out)
  have HVJ := Lib.hid (hvj.keep HBX.out)
  have HI := Lib.hid IH
  have HH := Lib.hid hh
  have HOK := Lib.hid hok
  have HOKJ := Lib.hid hokj
  have HLJJ := Lib.hid hlj
  have HLL := Lib.hid hl
  cases hl with
  | mk _ _ _ _ _ _ l2 l3 lm l4 l5 lb =>
  cases hlj with
  | mk _ _ _ _ _ m1 m2 m3 m4 m5 =>
  have HL5 := Lib.hid l5
  have HM5 := Lib.hid m5
  have HW := Lib.hid hW0
  clear hQ hW0 hv hvj IH hh hok hokj l3 l5 lb m3 m5
  have HL : Hid (LimS 1048576 (.mk 1 mn mx ns ms kids)) := HLL
  go_enter Tryz.func49, Tryz.ntmps49
  go_upto_region 1 with fail
  rw [HW.out]
  clear HW
  have HS : Hid (∀ X, Below W0.heap.size W0 X → (fun X => X.cell? ⟨w.heap.size, 0, none⟩ = some (.int .i64 1) ∧ X.cell? ⟨w.heap.size, 1, none⟩ = some (.int .i64 mn) ∧ X.cell? ⟨w.heap.size, 2, none⟩ = some (.int .i64 mx) ∧ X.cell? ⟨w.heap.size, 3, none⟩ = some (.slice A ns.length ca) ∧ X.cell? ⟨w.heap.size, 4, none⟩ = some (.slice M ms.length ma) ∧ X.cell? ⟨w.heap.size, 5, none⟩ = some (.slice KA kids.length kc) ∧ X.cell? ⟨w.heap.size + 1, 0, none⟩ = some (.int .i64 jk) ∧ X.cell? ⟨w.heap.size + 1, 1, none⟩ = some (.bool jf) ∧ X.cell? ⟨w.heap.size + 1, 2, none⟩ = some (.string jt) ∧ X.cell? ⟨w.heap.size + 1, 3, none⟩ = some (.slice jA jns.length jca) ∧ X.cell? ⟨w.heap.size + 1, 4, none⟩ = some (.slice jK jkids.length jkc)) X) := fun X h => ⟨cell_keep h (c6_get HOS.out).1, cell_keep h (c6_get HOS.out).2.1, cell_keep h (c6_get HOS.out).2.2.1, cell_keep h (c6_get HOS.out).2.2.2.1, cell_keep h (c6_get HOS.out).2.2.2.2.1, cell_keep h (c6_get HOS.out).2.2.2.2.2, cell_keep h (c5_get HOJ.out).1, cell_keep h (c5_get HOJ.out).2.1, cell_keep h (c5_get HOJ.out).2.2.1, cell_keep h (c5_get HOJ.out).2.2.2.1, cell_keep h (c5_get HOJ.out).2.2.2.2⟩
  refine wp_region_held_drew (S := (fun X => X.cell? ⟨w.heap.size, 0, none⟩ = some (.int .i64 1) ∧ X.cell? ⟨w.heap.size, 1, none⟩ = some (.int .i64 mn) ∧ X.cell? ⟨w.heap.size, 2, none⟩ = some (.int .i64 mx) ∧ X.cell? ⟨w.heap.size, 3, none⟩ = some (.slice A ns.length ca) ∧ X.cell? ⟨w.heap.size, 4, none⟩ = some (.slice M ms.length ma) ∧ X.cell? ⟨w.heap.size, 5, none⟩ = some (.slice KA kids.length kc) ∧ X.cell? ⟨w.heap.size + 1, 0, none⟩ = some (.int .i64 jk) ∧ X.cell? ⟨w.heap.size + 1, 1, none⟩ = some (.bool jf) ∧ X.cell? ⟨w.heap.size + 1, 2, none⟩ = some (.string jt) ∧ X.cell? ⟨w.heap.size + 1, 3, none⟩ = some (.slice jA jns.length jca) ∧ X.cell? ⟨w.heap.size + 1, 4, none⟩ = some (.slice jK jkids.length jkc))) (by kernel_rfl) ?_ (fun hHeld => ?_)
  · exact HS.out _ (Below.refl _ _).drew
  (first
    | (refine held_take (i := 1) (v := ?_) rfl (by kernel_rfl) (by kernel_rfl) (by kernel_rfl) (fun _ _ _ h => h) (Or.inl ⟨rfl, ?_⟩) (by assumption) ?_; rotate_left; (intro X hSw; (try dsimp only at hSw); (go_simp <;> with_reducible rfl)))
    | (refine held_take (i := 1) (v := undef) rfl (by kernel_rfl) (by kernel_rfl) (by kernel_rfl) (fun _ _ _ h => h) (Or.inr ⟨rfl, rfl⟩) (by assumption) ?_)); simp only [Act.put, List.setIfInBounds_toArray, List.set_cons_zero, List.set_cons_succ]
  (first
    | (refine held_take (i := 2) (v := ?_) rfl (by kernel_rfl) (by kernel_rfl) (by kernel_rfl) (fun _ _ _ h => h) (Or.inl ⟨rfl, ?_⟩) (by assumption) ?_; rotate_left; (intro X hSw; (try dsimp only at hSw); (go_simp <;> with_reducible rfl)))
    | (refine held_take (i := 2) (v := undef) rfl (by kernel_rfl) (by kernel_rfl) (by kernel_rfl) (fun _ _ _ h => h) (Or.inr ⟨rfl, rfl⟩) (by assumption) ?_)); simp only [Act.put, List.setIfInBounds_toArray, List.set_cons_zero, List.set_cons_succ]
  (first
    | (refine held_take (i := 5) (v := ?_) rfl (by kernel_rfl) (by kernel_rfl) (by kernel_rfl) (fun _ _ _ h => h) (Or.inl ⟨rfl, ?_⟩) (by assumption) ?_; rotate_left; (intro X hSw; (try dsimp only at hSw); (go_simp <;> with_reducible rfl)))
    | (refine held_take (i := 5) (v := undef) rfl (by kernel_rfl) (by kernel_rfl) (by kernel_rfl) (fun _ _ _ h => h) (Or.inr ⟨rfl, rfl⟩) (by assumption) ?_)); simp only [Act.put, List.setIfInBounds_toArray, List.set_cons_zero, List.set_cons_succ]
  (first
    | (refine held_take (i := 6) (v := ?_) rfl (by kernel_rfl) (by kernel_rfl) (by kernel_rfl) (fun _ _ _ h => h) (Or.inl ⟨rfl, ?_⟩) (by assumption) ?_; rotate_left; (intro X hSw; (try dsimp only at hSw); (go_simp <;> with_reducible rfl)))
    | (refine held_take (i := 6) (v := undef) rfl (by kernel_rfl) (by kernel_rfl) (by kernel_rfl) (fun _ _ _ h => h) (Or.inr ⟨rfl, rfl⟩) (by assumption) ?_)); simp only [Act.put, List.setIfInBounds_toArray, List.set_cons_zero, List.set_cons_succ]
  refine wpAnyH_ready (rs := [0]) (by kernel_rfl) (by simp) ?_
  refine AllReadyH.cons rfl (fun K hK => ?_) AllReadyH.nil
  go_simp
  refine (kinds_any _).mono ?_
  rintro e w3 ⟨rfl, hb3⟩
  have HB3 : Hid (Below W0.heap.size W0 w3) := (Below.refl W0.heap.size W0).drew.trans hb3
  clear hb3 hHeld
  refine hK.out _ _ ?_ (fun hHeld => ?_)
  · exact HS.out _ HB3.out
  clear hK K
  have hix := ix1
  have hfx := gx1
  (first
    | (refine held_take (i := 3) (v := ?_) rfl (by kernel_rfl) (by kernel_rfl) (by kernel_rfl) (fun _ _ _ h => h) (Or.inl ⟨rfl, ?_⟩) (by assumption) ?_; rotate_left; (intro X hSw; (try dsimp only at hSw); (go_simp <;> with_reducible rfl)))
    | (refine held_take (i := 3) (v := undef) rfl (by kernel_rfl) (by kernel_rfl) (by kernel_rfl) (fun _ _ _ h => h) (Or.inr ⟨rfl, rfl⟩) (by assumption) ?_)); simp only [Act.put, List.setIfInBounds_toArray, List.set_cons_zero, List.set_cons_succ]
  (first
    | (refine held_take (i := 4) (v := ?_) rfl (by kernel_rfl) (by kernel_rfl) (by kernel_rfl) (fun _ _ _ h => h) (Or.inl ⟨rfl, ?_⟩) (by assumption) ?_; rotate_left; (intro X hSw; (try dsimp only at hSw); (go_simp <;> with_reducible rfl)))
    | (refine held_take (i := 4) (v := undef) rfl (by kernel_rfl) (by kernel_rfl) (by kernel_rfl) (fun _ _ _ h => h) (Or.inr ⟨rfl, rfl⟩) (by assumption) ?_)); simp only [Act.put, List.setIfInBounds_toArray, List.set_cons_zero, List.set_cons_succ]
  refine wpAnyH_ready (rs := [7]) (by kernel_rfl) (by simp) ?_
  refine AllReadyH.cons rfl (fun K hK => ?_) AllReadyH.nil
  go_simp
  refine (fitsNull_any mn mx ns ms kids A M KA ca ma kc B0 jk jf jt jns jkids jA jK jca jkc B1 w3 (HV.out.keep HB3.out) HL.out HOK.out (HVJ.out.keep HB3.out) HLJJ.out HOKJ.out).mono ?_
  rintro e w4 ⟨r, rfl, hr, hb⟩
  have HR := Lib.hid hr
  have HB4 := Lib.hid (HBX.out.trans ((HB3.out.trans (hb.mono HB3.out.size)).mono HBX.out.size))
  have HB5 := Lib.hid (HB3.out.trans (hb.mono HB3.out.size))
  clear hr hb hHeld
  refine hK.out _ _ ?_ (fun hHeld => ?_)
  · exact HS.out _ HB5.out
  clear hK K
  (first
    | (refine held_take (i := 8) (v := ?_) rfl (by kernel_rfl) (by kernel_rfl) (by kernel_rfl) (fun _ _ _ h => h) (Or.inl ⟨rfl, ?_⟩) (by assumption) ?_; rotate_left; (intro X hSw; (try dsimp only at hSw); (go_simp <;> with_reducible rfl)))
    | (refine held_take (i := 8) (v := undef) rfl (by kernel_rfl) (by kernel_rfl) (by kernel_rfl) (fun _ _ _ h => h) (Or.inr ⟨rfl, rfl⟩) (by assumption) ?_)); simp only [Act.put, List.setIfInBounds_toArray, List.set_cons_zero, List.set_cons_succ]
  refine wpAnyH_done (by kernel_rfl) ?_ _
  go_wp2
  go_ret
  exact ⟨r, rfl, HR.out.trans HQ.out.symm, HB4.out⟩

theorem gx2 (w : World) : (Instr.field 92 (.agg #[.func (.func 89) #[] #[], .func (.func 93) #[] #[], .func (.func 94) #[] #[], .func (.func 95) #[] #[]]) 1).run Tryz.prog w = .ok (.func (.func 93) #[] #[]) w := by kernel_rfl
set_option maxRecDepth 100000 in
set_option maxHeartbeats 8000000 in
theorem giK2 {n : Nat} (IH : GiS n) (mn mx : Int) (ns : List ByteArray) (ms : List Bool) (kids : List Sc) (A M KA : Option Addr) (ca ma kc B0 : Nat) (jk : Int) (jf : Bool) (jt : ByteArray) (jns : List ByteArray) (jkids : List Js) (jA jK : Option Addr) (jca jkc B1 : Nat) (w : World) (hh : htS kids ≤ n) (hv : ScV w B0 ns ms kids A M KA) (hl : LimS 1048576 (.mk 2 mn mx ns ms kids)) (hok : SokP (.mk 2 mn mx ns ms kids)) (hvj : JsV w B1 jns jkids jA jK) (hlj : LimJ 1048576 (.mk jk jf jt jns jkids)) (hokj : JokP (.mk jk jf jt jns jkids)) :
    Calls Tryz.prog 49 #[.agg #[.int .i64 2, .int .i64 mn, .int .i64 mx, .slice A ns.length ca, .slice M ms.length ma, .slice KA kids.length kc], .agg #[.int .i64 jk, .bool jf, .string jt, .slice jA jns.length jca, .slice jK jkids.length jkc]] w (BoolPost (FitD (n + 1) (.mk 2 mn mx ns ms kids) (.mk jk jf jt jns jkids)) w) := by
  rw [show FitD (n + 1) (.mk 2 mn mx ns ms kids) (.mk jk jf jt jns jkids) = (jk = 2) from propext fitD2]
  obtain ⟨Q, hQ⟩ : ∃ Q : Prop, Q ↔ (jk = 2) := ⟨_, Iff.rfl⟩
  rw [show (jk = 2) = Q from (propext hQ).symm]
  have HQ := Lib.hid hQ
  obtain ⟨W0, hW0⟩ : ∃ W0, (w.alloc (.cells #[.int .i64 2, .int .i64 mn, .int .i64 mx, .slice A ns.length ca, .slice M ms.length ma, .slice KA kids.length kc] 31)).alloc (.cells #[.int .i64 jk, .bool jf, .string jt, .slice jA jns.length jca, .slice jK jkids.length jkc] 42) = W0 := ⟨_, rfl⟩
  have HBX : Hid (Below w.heap.size w W0) := by rw [← hW0]; exact (below_box _).alloc (by simp) _
  have HOS : Hid (Own W0 w.heap.size 31 (c6 2 mn mx A ns.length ca M ms.length ma KA kids.length kc)) := by rw [← hW0]; exact (Own.new w 31 #[.int .i64 2, .int .i64 mn, .int .i64 mx, .slice A ns.length ca, .slice M ms.length ma, .slice KA kids.length kc]).alloc _
  have HOJ : Hid (Own W0 (w.heap.size + 1) 42 (c5 jk jf jt jA jns.length jca jK jkids.length jkc)) := by
    rw [← hW0]
    have := Own.new (w.alloc (.cells #[.int .i64 2, .int .i64 mn, .int .i64 mx, .slice A ns.length ca, .slice M ms.length ma, .slice KA kids.length kc] 31)) 42 #[.int .i64 jk, .bool jf, .string jt, .slice jA jns.length jca, .slice jK jkids.length jkc]
    rw [World.size_alloc] at this
    exact this
  have HV := Lib.hid (hv.keep HBX.out)
  have HVJ := Lib.hid (hvj.keep HBX.out)
  have HI := Lib.hid IH
  have HH := Lib.hid hh
  have HOK := Lib.hid hok
  have HOKJ := Lib.hid hokj
  have HLJJ := Lib.hid hlj
  have HLL := Lib.hid hl
  cases hl with
  | mk _ _ _ _ _ _ l2 l3 lm l4 l5 lb =>
  cases hlj with
  | mk _ _ _ _ _ m1 m2 m3 m4 m5 =>
  have HL5 := Lib.hid l5
  have HM5 := Lib.hid m5
  have HW := Lib.hid hW0
  clear hQ hW0 hv hvj IH hh hok hokj l3 l5 lb m3 m5
  have HL : Hid (LimS 1048576 (.mk 2 mn mx ns ms kids)) := HLL
  go_enter Tryz.func49, Tryz.ntmps49
  go_upto_region 1 with fail
  rw [HW.out]
  clear HW
  have HS : Hid (∀ X, Below W0.heap.size W0 X → (fun X => X.cell? ⟨w.heap.size, 0, none⟩ = some (.int .i64 2) ∧ X.cell? ⟨w.heap.size, 1, none⟩ = some (.int .i64 mn) ∧ X.cell? ⟨w.heap.size, 2, none⟩ = some (.int .i64 mx) ∧ X.cell? ⟨w.heap.size, 3, none⟩ = some (.slice A ns.length ca) ∧ X.cell? ⟨w.heap.size, 4, none⟩ = some (.slice M ms.length ma) ∧ X.cell? ⟨w.heap.size, 5, none⟩ = some (.slice KA kids.length kc) ∧ X.cell? ⟨w.heap.size + 1, 0, none⟩ = some (.int .i64 jk) ∧ X.cell? ⟨w.heap.size + 1, 1, none⟩ = some (.bool jf) ∧ X.cell? ⟨w.heap.size + 1, 2, none⟩ = some (.string jt) ∧ X.cell? ⟨w.heap.size + 1, 3, none⟩ = some (.slice jA jns.length jca) ∧ X.cell? ⟨w.heap.size + 1, 4, none⟩ = some (.slice jK jkids.length jkc)) X) := fun X h => ⟨cell_keep h (c6_get HOS.out).1, cell_keep h (c6_get HOS.out).2.1, cell_keep h (c6_get HOS.out).2.2.1, cell_keep h (c6_get HOS.out).2.2.2.1, cell_keep h (c6_get HOS.out).2.2.2.2.1, cell_keep h (c6_get HOS.out).2.2.2.2.2, cell_keep h (c5_get HOJ.out).1, cell_keep h (c5_get HOJ.out).2.1, cell_keep h (c5_get HOJ.out).2.2.1, cell_keep h (c5_get HOJ.out).2.2.2.1, cell_keep h (c5_get HOJ.out).2.2.2.2⟩
  refine wp_region_held_drew (S := (fun X => X.cell? ⟨w.heap.size, 0, none⟩ = some (.int .i64 2) ∧ X.cell? ⟨w.heap.size, 1, none⟩ = some (.int .i64 mn) ∧ X.cell? ⟨w.heap.size, 2, none⟩ = some (.int .i64 mx) ∧ X.cell? ⟨w.heap.size, 3, none⟩ = some (.slice A ns.length ca) ∧ X.cell? ⟨w.heap.size, 4, none⟩ = some (.slice M ms.length ma) ∧ X.cell? ⟨w.heap.size, 5, none⟩ = some (.slice KA kids.length kc) ∧ X.cell? ⟨w.heap.size + 1, 0, none⟩ = some (.int .i64 jk) ∧ X.cell? ⟨w.heap.size + 1, 1, none⟩ = some (.bool jf) ∧ X.cell? ⟨w.heap.size + 1, 2, none⟩ = some (.string jt) ∧ X.cell? ⟨w.heap.size + 1, 3, none⟩ = some (.slice jA jns.length jca) ∧ X.cell? ⟨w.heap.size + 1, 4, none⟩ = some (.slice jK jkids.length jkc))) (by kernel_rfl) ?_ (fun hHeld => ?_)
  · exact HS.out _ (Below.refl _ _).drew
  (first
    | (refine held_take (i := 1) (v := ?_) rfl (by kernel_rfl) (by kernel_rfl) (by kernel_rfl) (fun _ _ _ h => h) (Or.inl ⟨rfl, ?_⟩) (by assumption) ?_; rotate_left; (intro X hSw; (try dsimp only at hSw); (go_simp <;> with_reducible rfl)))
    | (refine held_take (i := 1) (v := undef) rfl (by kernel_rfl) (by kernel_rfl) (by kernel_rfl) (fun _ _ _ h => h) (Or.inr ⟨rfl, rfl⟩) (by assumption) ?_)); simp only [Act.put, List.setIfInBounds_toArray, List.set_cons_zero, List.set_cons_succ]
  (first
    | (refine held_take (i := 2) (v := ?_) rfl (by kernel_rfl) (by kernel_rfl) (by kernel_rfl) (fun _ _ _ h => h) (Or.inl ⟨rfl, ?_⟩) (by assumption) ?_; rotate_left; (intro X hSw; (try dsimp only at hSw); (go_simp <;> with_reducible rfl)))
    | (refine held_take (i := 2) (v := undef) rfl (by kernel_rfl) (by kernel_rfl) (by kernel_rfl) (fun _ _ _ h => h) (Or.inr ⟨rfl, rfl⟩) (by assumption) ?_)); simp only [Act.put, List.setIfInBounds_toArray, List.set_cons_zero, List.set_cons_succ]
  (first
    | (refine held_take (i := 5) (v := ?_) rfl (by kernel_rfl) (by kernel_rfl) (by kernel_rfl) (fun _ _ _ h => h) (Or.inl ⟨rfl, ?_⟩) (by assumption) ?_; rotate_left; (intro X hSw; (try dsimp only at hSw); (go_simp <;> with_reducible rfl)))
    | (refine held_take (i := 5) (v := undef) rfl (by kernel_rfl) (by kernel_rfl) (by kernel_rfl) (fun _ _ _ h => h) (Or.inr ⟨rfl, rfl⟩) (by assumption) ?_)); simp only [Act.put, List.setIfInBounds_toArray, List.set_cons_zero, List.set_cons_succ]
  (first
    | (refine held_take (i := 6) (v := ?_) rfl (by kernel_rfl) (by kernel_rfl) (by kernel_rfl) (fun _ _ _ h => h) (Or.inl ⟨rfl, ?_⟩) (by assumption) ?_; rotate_left; (intro X hSw; (try dsimp only at hSw); (go_simp <;> with_reducible rfl)))
    | (refine held_take (i := 6) (v := undef) rfl (by kernel_rfl) (by kernel_rfl) (by kernel_rfl) (fun _ _ _ h => h) (Or.inr ⟨rfl, rfl⟩) (by assumption) ?_)); simp only [Act.put, List.setIfInBounds_toArray, List.set_cons_zero, List.set_cons_succ]
  refine wpAnyH_ready (rs := [0]) (by kernel_rfl) (by simp) ?_
  refine AllReadyH.cons rfl (fun K hK => ?_) AllReadyH.nil
  go_simp
  refine (kinds_any _).mono ?_
  rintro e w3 ⟨rfl, hb3⟩
  have HB3 : Hid (Below W0.heap.size W0 w3) := (Below.refl W0.heap.size W0).drew.trans hb3
  clear hb3 hHeld
  refine hK.out _ _ ?_ (fun hHeld => ?_)
  · exact HS.out _ HB3.out
  clear hK K
  have hix := ix2
  have hfx := gx2
  (first
    | (refine held_take (i := 3) (v := ?_) rfl (by kernel_rfl) (by kernel_rfl) (by kernel_rfl) (fun _ _ _ h => h) (Or.inl ⟨rfl, ?_⟩) (by assumption) ?_; rotate_left; (intro X hSw; (try dsimp only at hSw); (go_simp <;> with_reducible rfl)))
    | (refine held_take (i := 3) (v := undef) rfl (by kernel_rfl) (by kernel_rfl) (by kernel_rfl) (fun _ _ _ h => h) (Or.inr ⟨rfl, rfl⟩) (by assumption) ?_)); simp only [Act.put, List.setIfInBounds_toArray, List.set_cons_zero, List.set_cons_succ]
  (first
    | (refine held_take (i := 4) (v := ?_) rfl (by kernel_rfl) (by kernel_rfl) (by kernel_rfl) (fun _ _ _ h => h) (Or.inl ⟨rfl, ?_⟩) (by assumption) ?_; rotate_left; (intro X hSw; (try dsimp only at hSw); (go_simp <;> with_reducible rfl)))
    | (refine held_take (i := 4) (v := undef) rfl (by kernel_rfl) (by kernel_rfl) (by kernel_rfl) (fun _ _ _ h => h) (Or.inr ⟨rfl, rfl⟩) (by assumption) ?_)); simp only [Act.put, List.setIfInBounds_toArray, List.set_cons_zero, List.set_cons_succ]
  refine wpAnyH_ready (rs := [7]) (by kernel_rfl) (by simp) ?_
  refine AllReadyH.cons rfl (fun K hK => ?_) AllReadyH.nil
  go_simp
  refine (fitsFlag_any mn mx ns ms kids A M KA ca ma kc B0 jk jf jt jns jkids jA jK jca jkc B1 w3 (HV.out.keep HB3.out) HL.out HOK.out (HVJ.out.keep HB3.out) HLJJ.out HOKJ.out).mono ?_
  rintro e w4 ⟨r, rfl, hr, hb⟩
  have HR := Lib.hid hr
  have HB4 := Lib.hid (HBX.out.trans ((HB3.out.trans (hb.mono HB3.out.size)).mono HBX.out.size))
  have HB5 := Lib.hid (HB3.out.trans (hb.mono HB3.out.size))
  clear hr hb hHeld
  refine hK.out _ _ ?_ (fun hHeld => ?_)
  · exact HS.out _ HB5.out
  clear hK K
  (first
    | (refine held_take (i := 8) (v := ?_) rfl (by kernel_rfl) (by kernel_rfl) (by kernel_rfl) (fun _ _ _ h => h) (Or.inl ⟨rfl, ?_⟩) (by assumption) ?_; rotate_left; (intro X hSw; (try dsimp only at hSw); (go_simp <;> with_reducible rfl)))
    | (refine held_take (i := 8) (v := undef) rfl (by kernel_rfl) (by kernel_rfl) (by kernel_rfl) (fun _ _ _ h => h) (Or.inr ⟨rfl, rfl⟩) (by assumption) ?_)); simp only [Act.put, List.setIfInBounds_toArray, List.set_cons_zero, List.set_cons_succ]
  refine wpAnyH_done (by kernel_rfl) ?_ _
  go_wp2
  go_ret
  exact ⟨r, rfl, HR.out.trans HQ.out.symm, HB4.out⟩

theorem gx3 (w : World) : (Instr.field 92 (.agg #[.func (.func 89) #[] #[], .func (.func 96) #[] #[], .func (.func 97) #[] #[], .func (.func 98) #[] #[]]) 1).run Tryz.prog w = .ok (.func (.func 96) #[] #[]) w := by kernel_rfl
set_option maxRecDepth 100000 in
set_option maxHeartbeats 8000000 in
theorem giK3 {n : Nat} (IH : GiS n) (mn mx : Int) (ns : List ByteArray) (ms : List Bool) (kids : List Sc) (A M KA : Option Addr) (ca ma kc B0 : Nat) (jk : Int) (jf : Bool) (jt : ByteArray) (jns : List ByteArray) (jkids : List Js) (jA jK : Option Addr) (jca jkc B1 : Nat) (w : World) (hh : htS kids ≤ n) (hv : ScV w B0 ns ms kids A M KA) (hl : LimS 1048576 (.mk 3 mn mx ns ms kids)) (hok : SokP (.mk 3 mn mx ns ms kids)) (hvj : JsV w B1 jns jkids jA jK) (hlj : LimJ 1048576 (.mk jk jf jt jns jkids)) (hokj : JokP (.mk jk jf jt jns jkids)) :
    Calls Tryz.prog 49 #[.agg #[.int .i64 3, .int .i64 mn, .int .i64 mx, .slice A ns.length ca, .slice M ms.length ma, .slice KA kids.length kc], .agg #[.int .i64 jk, .bool jf, .string jt, .slice jA jns.length jca, .slice jK jkids.length jkc]] w (BoolPost (FitD (n + 1) (.mk 3 mn mx ns ms kids) (.mk jk jf jt jns jkids)) w) := by
  rw [show FitD (n + 1) (.mk 3 mn mx ns ms kids) (.mk jk jf jt jns jkids) = (jk = 3) from propext fitD3]
  obtain ⟨Q, hQ⟩ : ∃ Q : Prop, Q ↔ (jk = 3) := ⟨_, Iff.rfl⟩
  rw [show (jk = 3) = Q from (propext hQ).symm]
  have HQ := Lib.hid hQ
  obtain ⟨W0, hW0⟩ : ∃ W0, (w.alloc (.cells #[.int .i64 3, .int .i64 mn, .int .i64 mx, .slice A ns.length ca, .slice M ms.length ma, .slice KA kids.length kc] 31)).alloc (.cells #[.int .i64 jk, .bool jf, .string jt, .slice jA jns.length jca, .slice jK jkids.length jkc] 42) = W0 := ⟨_, rfl⟩
  have HBX : Hid (Below w.heap.size w W0) := by rw [← hW0]; exact (below_box _).alloc (by simp) _
  have HOS : Hid (Own W0 w.heap.size 31 (c6 3 mn mx A ns.length ca M ms.length ma KA kids.length kc)) := by rw [← hW0]; exact (Own.new w 31 #[.int .i64 3, .int .i64 mn, .int .i64 mx, .slice A ns.length ca, .slice M ms.length ma, .slice KA kids.length kc]).alloc _
  have HOJ : Hid (Own W0 (w.heap.size + 1) 42 (c5 jk jf jt jA jns.length jca jK jkids.length jkc)) := by
    rw [← hW0]
    have := Own.new (w.alloc (.cells #[.int .i64 3, .int .i64 mn, .int .i64 mx, .slice A ns.length ca, .slice M ms.length ma, .slice KA kids.length kc] 31)) 42 #[.int .i64 jk, .bool jf, .string jt, .slice jA jns.length jca, .slice jK jkids.length jkc]
    rw [World.size_alloc] at this
    exact this
  have HV := Lib.hid (hv.keep HBX.out)
  have HVJ := Lib.hid (hvj.keep HBX.out)
  have HI := Lib.hid IH
  have HH := Lib.hid hh
  have HOK := Lib.hid hok
  have HOKJ := Lib.hid hokj
  have HLJJ := Lib.hid hlj
  have HLL := Lib.hid hl
  cases hl with
  | mk _ _ _ _ _ _ l2 l3 lm l4 l5 lb =>
  cases hlj with
  | mk _ _ _ _ _ m1 m2 m3 m4 m5 =>
  have HL5 := Lib.hid l5
  have HM5 := Lib.hid m5
  have HW := Lib.hid hW0
  clear hQ hW0 hv hvj IH hh hok hokj l3 l5 lb m3 m5
  have HL : Hid (LimS 1048576 (.mk 3 mn mx ns ms kids)) := HLL
  go_enter Tryz.func49, Tryz.ntmps49
  go_upto_region 1 with fail
  rw [HW.out]
  clear HW
  have HS : Hid (∀ X, Below W0.heap.size W0 X → (fun X => X.cell? ⟨w.heap.size, 0, none⟩ = some (.int .i64 3) ∧ X.cell? ⟨w.heap.size, 1, none⟩ = some (.int .i64 mn) ∧ X.cell? ⟨w.heap.size, 2, none⟩ = some (.int .i64 mx) ∧ X.cell? ⟨w.heap.size, 3, none⟩ = some (.slice A ns.length ca) ∧ X.cell? ⟨w.heap.size, 4, none⟩ = some (.slice M ms.length ma) ∧ X.cell? ⟨w.heap.size, 5, none⟩ = some (.slice KA kids.length kc) ∧ X.cell? ⟨w.heap.size + 1, 0, none⟩ = some (.int .i64 jk) ∧ X.cell? ⟨w.heap.size + 1, 1, none⟩ = some (.bool jf) ∧ X.cell? ⟨w.heap.size + 1, 2, none⟩ = some (.string jt) ∧ X.cell? ⟨w.heap.size + 1, 3, none⟩ = some (.slice jA jns.length jca) ∧ X.cell? ⟨w.heap.size + 1, 4, none⟩ = some (.slice jK jkids.length jkc)) X) := fun X h => ⟨cell_keep h (c6_get HOS.out).1, cell_keep h (c6_get HOS.out).2.1, cell_keep h (c6_get HOS.out).2.2.1, cell_keep h (c6_get HOS.out).2.2.2.1, cell_keep h (c6_get HOS.out).2.2.2.2.1, cell_keep h (c6_get HOS.out).2.2.2.2.2, cell_keep h (c5_get HOJ.out).1, cell_keep h (c5_get HOJ.out).2.1, cell_keep h (c5_get HOJ.out).2.2.1, cell_keep h (c5_get HOJ.out).2.2.2.1, cell_keep h (c5_get HOJ.out).2.2.2.2⟩
  refine wp_region_held_drew (S := (fun X => X.cell? ⟨w.heap.size, 0, none⟩ = some (.int .i64 3) ∧ X.cell? ⟨w.heap.size, 1, none⟩ = some (.int .i64 mn) ∧ X.cell? ⟨w.heap.size, 2, none⟩ = some (.int .i64 mx) ∧ X.cell? ⟨w.heap.size, 3, none⟩ = some (.slice A ns.length ca) ∧ X.cell? ⟨w.heap.size, 4, none⟩ = some (.slice M ms.length ma) ∧ X.cell? ⟨w.heap.size, 5, none⟩ = some (.slice KA kids.length kc) ∧ X.cell? ⟨w.heap.size + 1, 0, none⟩ = some (.int .i64 jk) ∧ X.cell? ⟨w.heap.size + 1, 1, none⟩ = some (.bool jf) ∧ X.cell? ⟨w.heap.size + 1, 2, none⟩ = some (.string jt) ∧ X.cell? ⟨w.heap.size + 1, 3, none⟩ = some (.slice jA jns.length jca) ∧ X.cell? ⟨w.heap.size + 1, 4, none⟩ = some (.slice jK jkids.length jkc))) (by kernel_rfl) ?_ (fun hHeld => ?_)
  · exact HS.out _ (Below.refl _ _).drew
  (first
    | (refine held_take (i := 1) (v := ?_) rfl (by kernel_rfl) (by kernel_rfl) (by kernel_rfl) (fun _ _ _ h => h) (Or.inl ⟨rfl, ?_⟩) (by assumption) ?_; rotate_left; (intro X hSw; (try dsimp only at hSw); (go_simp <;> with_reducible rfl)))
    | (refine held_take (i := 1) (v := undef) rfl (by kernel_rfl) (by kernel_rfl) (by kernel_rfl) (fun _ _ _ h => h) (Or.inr ⟨rfl, rfl⟩) (by assumption) ?_)); simp only [Act.put, List.setIfInBounds_toArray, List.set_cons_zero, List.set_cons_succ]
  (first
    | (refine held_take (i := 2) (v := ?_) rfl (by kernel_rfl) (by kernel_rfl) (by kernel_rfl) (fun _ _ _ h => h) (Or.inl ⟨rfl, ?_⟩) (by assumption) ?_; rotate_left; (intro X hSw; (try dsimp only at hSw); (go_simp <;> with_reducible rfl)))
    | (refine held_take (i := 2) (v := undef) rfl (by kernel_rfl) (by kernel_rfl) (by kernel_rfl) (fun _ _ _ h => h) (Or.inr ⟨rfl, rfl⟩) (by assumption) ?_)); simp only [Act.put, List.setIfInBounds_toArray, List.set_cons_zero, List.set_cons_succ]
  (first
    | (refine held_take (i := 5) (v := ?_) rfl (by kernel_rfl) (by kernel_rfl) (by kernel_rfl) (fun _ _ _ h => h) (Or.inl ⟨rfl, ?_⟩) (by assumption) ?_; rotate_left; (intro X hSw; (try dsimp only at hSw); (go_simp <;> with_reducible rfl)))
    | (refine held_take (i := 5) (v := undef) rfl (by kernel_rfl) (by kernel_rfl) (by kernel_rfl) (fun _ _ _ h => h) (Or.inr ⟨rfl, rfl⟩) (by assumption) ?_)); simp only [Act.put, List.setIfInBounds_toArray, List.set_cons_zero, List.set_cons_succ]
  (first
    | (refine held_take (i := 6) (v := ?_) rfl (by kernel_rfl) (by kernel_rfl) (by kernel_rfl) (fun _ _ _ h => h) (Or.inl ⟨rfl, ?_⟩) (by assumption) ?_; rotate_left; (intro X hSw; (try dsimp only at hSw); (go_simp <;> with_reducible rfl)))
    | (refine held_take (i := 6) (v := undef) rfl (by kernel_rfl) (by kernel_rfl) (by kernel_rfl) (fun _ _ _ h => h) (Or.inr ⟨rfl, rfl⟩) (by assumption) ?_)); simp only [Act.put, List.setIfInBounds_toArray, List.set_cons_zero, List.set_cons_succ]
  refine wpAnyH_ready (rs := [0]) (by kernel_rfl) (by simp) ?_
  refine AllReadyH.cons rfl (fun K hK => ?_) AllReadyH.nil
  go_simp
  refine (kinds_any _).mono ?_
  rintro e w3 ⟨rfl, hb3⟩
  have HB3 : Hid (Below W0.heap.size W0 w3) := (Below.refl W0.heap.size W0).drew.trans hb3
  clear hb3 hHeld
  refine hK.out _ _ ?_ (fun hHeld => ?_)
  · exact HS.out _ HB3.out
  clear hK K
  have hix := ix3
  have hfx := gx3
  (first
    | (refine held_take (i := 3) (v := ?_) rfl (by kernel_rfl) (by kernel_rfl) (by kernel_rfl) (fun _ _ _ h => h) (Or.inl ⟨rfl, ?_⟩) (by assumption) ?_; rotate_left; (intro X hSw; (try dsimp only at hSw); (go_simp <;> with_reducible rfl)))
    | (refine held_take (i := 3) (v := undef) rfl (by kernel_rfl) (by kernel_rfl) (by kernel_rfl) (fun _ _ _ h => h) (Or.inr ⟨rfl, rfl⟩) (by assumption) ?_)); simp only [Act.put, List.setIfInBounds_toArray, List.set_cons_zero, List.set_cons_succ]
  (first
    | (refine held_take (i := 4) (v := ?_) rfl (by kernel_rfl) (by kernel_rfl) (by kernel_rfl) (fun _ _ _ h => h) (Or.inl ⟨rfl, ?_⟩) (by assumption) ?_; rotate_left; (intro X hSw; (try dsimp only at hSw); (go_simp <;> with_reducible rfl)))
    | (refine held_take (i := 4) (v := undef) rfl (by kernel_rfl) (by kernel_rfl) (by kernel_rfl) (fun _ _ _ h => h) (Or.inr ⟨rfl, rfl⟩) (by assumption) ?_)); simp only [Act.put, List.setIfInBounds_toArray, List.set_cons_zero, List.set_cons_succ]
  refine wpAnyH_ready (rs := [7]) (by kernel_rfl) (by simp) ?_
  refine AllReadyH.cons rfl (fun K hK => ?_) AllReadyH.nil
  go_simp
  refine (fitsNum_any mn mx ns ms kids A M KA ca ma kc B0 jk jf jt jns jkids jA jK jca jkc B1 w3 (HV.out.keep HB3.out) HL.out HOK.out (HVJ.out.keep HB3.out) HLJJ.out HOKJ.out).mono ?_
  rintro e w4 ⟨r, rfl, hr, hb⟩
  have HR := Lib.hid hr
  have HB4 := Lib.hid (HBX.out.trans ((HB3.out.trans (hb.mono HB3.out.size)).mono HBX.out.size))
  have HB5 := Lib.hid (HB3.out.trans (hb.mono HB3.out.size))
  clear hr hb hHeld
  refine hK.out _ _ ?_ (fun hHeld => ?_)
  · exact HS.out _ HB5.out
  clear hK K
  (first
    | (refine held_take (i := 8) (v := ?_) rfl (by kernel_rfl) (by kernel_rfl) (by kernel_rfl) (fun _ _ _ h => h) (Or.inl ⟨rfl, ?_⟩) (by assumption) ?_; rotate_left; (intro X hSw; (try dsimp only at hSw); (go_simp <;> with_reducible rfl)))
    | (refine held_take (i := 8) (v := undef) rfl (by kernel_rfl) (by kernel_rfl) (by kernel_rfl) (fun _ _ _ h => h) (Or.inr ⟨rfl, rfl⟩) (by assumption) ?_)); simp only [Act.put, List.setIfInBounds_toArray, List.set_cons_zero, List.set_cons_succ]
  refine wpAnyH_done (by kernel_rfl) ?_ _
  go_wp2
  go_ret
  exact ⟨r, rfl, HR.out.trans HQ.out.symm, HB4.out⟩

theorem gx4 (w : World) : (Instr.field 92 (.agg #[.func (.func 99) #[] #[], .func (.func 100) #[] #[], .func (.func 101) #[] #[], .func (.func 102) #[] #[]]) 1).run Tryz.prog w = .ok (.func (.func 100) #[] #[]) w := by kernel_rfl
set_option maxRecDepth 100000 in
set_option maxHeartbeats 8000000 in
theorem giK4 {n : Nat} (IH : GiS n) (mn mx : Int) (ns : List ByteArray) (ms : List Bool) (kids : List Sc) (A M KA : Option Addr) (ca ma kc B0 : Nat) (jk : Int) (jf : Bool) (jt : ByteArray) (jns : List ByteArray) (jkids : List Js) (jA jK : Option Addr) (jca jkc B1 : Nat) (w : World) (hh : htS kids ≤ n) (hv : ScV w B0 ns ms kids A M KA) (hl : LimS 1048576 (.mk 4 mn mx ns ms kids)) (hok : SokP (.mk 4 mn mx ns ms kids)) (hvj : JsV w B1 jns jkids jA jK) (hlj : LimJ 1048576 (.mk jk jf jt jns jkids)) (hokj : JokP (.mk jk jf jt jns jkids)) :
    Calls Tryz.prog 49 #[.agg #[.int .i64 4, .int .i64 mn, .int .i64 mx, .slice A ns.length ca, .slice M ms.length ma, .slice KA kids.length kc], .agg #[.int .i64 jk, .bool jf, .string jt, .slice jA jns.length jca, .slice jK jkids.length jkc]] w (BoolPost (FitD (n + 1) (.mk 4 mn mx ns ms kids) (.mk jk jf jt jns jkids)) w) := by
  rw [show FitD (n + 1) (.mk 4 mn mx ns ms kids) (.mk jk jf jt jns jkids) = (jk = 4 ∧ mn ≤ (jt.size : Int) ∧ (jt.size : Int) ≤ mx) from propext fitD4]
  obtain ⟨Q, hQ⟩ : ∃ Q : Prop, Q ↔ (jk = 4 ∧ mn ≤ (jt.size : Int) ∧ (jt.size : Int) ≤ mx) := ⟨_, Iff.rfl⟩
  rw [show (jk = 4 ∧ mn ≤ (jt.size : Int) ∧ (jt.size : Int) ≤ mx) = Q from (propext hQ).symm]
  have HQ := Lib.hid hQ
  obtain ⟨W0, hW0⟩ : ∃ W0, (w.alloc (.cells #[.int .i64 4, .int .i64 mn, .int .i64 mx, .slice A ns.length ca, .slice M ms.length ma, .slice KA kids.length kc] 31)).alloc (.cells #[.int .i64 jk, .bool jf, .string jt, .slice jA jns.length jca, .slice jK jkids.length jkc] 42) = W0 := ⟨_, rfl⟩
  have HBX : Hid (Below w.heap.size w W0) := by rw [← hW0]; exact (below_box _).alloc (by simp) _
  have HOS : Hid (Own W0 w.heap.size 31 (c6 4 mn mx A ns.length ca M ms.length ma KA kids.length kc)) := by rw [← hW0]; exact (Own.new w 31 #[.int .i64 4, .int .i64 mn, .int .i64 mx, .slice A ns.length ca, .slice M ms.length ma, .slice KA kids.length kc]).alloc _
  have HOJ : Hid (Own W0 (w.heap.size + 1) 42 (c5 jk jf jt jA jns.length jca jK jkids.length jkc)) := by
    rw [← hW0]
    have := Own.new (w.alloc (.cells #[.int .i64 4, .int .i64 mn, .int .i64 mx, .slice A ns.length ca, .slice M ms.length ma, .slice KA kids.length kc] 31)) 42 #[.int .i64 jk, .bool jf, .string jt, .slice jA jns.length jca, .slice jK jkids.length jkc]
    rw [World.size_alloc] at this
    exact this
  have HV := Lib.hid (hv.keep HBX.out)
  have HVJ := Lib.hid (hvj.keep HBX.out)
  have HI := Lib.hid IH
  have HH := Lib.hid hh
  have HOK := Lib.hid hok
  have HOKJ := Lib.hid hokj
  have HLJJ := Lib.hid hlj
  have HLL := Lib.hid hl
  cases hl with
  | mk _ _ _ _ _ _ l2 l3 lm l4 l5 lb =>
  cases hlj with
  | mk _ _ _ _ _ m1 m2 m3 m4 m5 =>
  have HL5 := Lib.hid l5
  have HM5 := Lib.hid m5
  have HW := Lib.hid hW0
  clear hQ hW0 hv hvj IH hh hok hokj l3 l5 lb m3 m5
  have HL : Hid (LimS 1048576 (.mk 4 mn mx ns ms kids)) := HLL
  go_enter Tryz.func49, Tryz.ntmps49
  go_upto_region 1 with fail
  rw [HW.out]
  clear HW
  have HS : Hid (∀ X, Below W0.heap.size W0 X → (fun X => X.cell? ⟨w.heap.size, 0, none⟩ = some (.int .i64 4) ∧ X.cell? ⟨w.heap.size, 1, none⟩ = some (.int .i64 mn) ∧ X.cell? ⟨w.heap.size, 2, none⟩ = some (.int .i64 mx) ∧ X.cell? ⟨w.heap.size, 3, none⟩ = some (.slice A ns.length ca) ∧ X.cell? ⟨w.heap.size, 4, none⟩ = some (.slice M ms.length ma) ∧ X.cell? ⟨w.heap.size, 5, none⟩ = some (.slice KA kids.length kc) ∧ X.cell? ⟨w.heap.size + 1, 0, none⟩ = some (.int .i64 jk) ∧ X.cell? ⟨w.heap.size + 1, 1, none⟩ = some (.bool jf) ∧ X.cell? ⟨w.heap.size + 1, 2, none⟩ = some (.string jt) ∧ X.cell? ⟨w.heap.size + 1, 3, none⟩ = some (.slice jA jns.length jca) ∧ X.cell? ⟨w.heap.size + 1, 4, none⟩ = some (.slice jK jkids.length jkc)) X) := fun X h => ⟨cell_keep h (c6_get HOS.out).1, cell_keep h (c6_get HOS.out).2.1, cell_keep h (c6_get HOS.out).2.2.1, cell_keep h (c6_get HOS.out).2.2.2.1, cell_keep h (c6_get HOS.out).2.2.2.2.1, cell_keep h (c6_get HOS.out).2.2.2.2.2, cell_keep h (c5_get HOJ.out).1, cell_keep h (c5_get HOJ.out).2.1, cell_keep h (c5_get HOJ.out).2.2.1, cell_keep h (c5_get HOJ.out).2.2.2.1, cell_keep h (c5_get HOJ.out).2.2.2.2⟩
  refine wp_region_held_drew (S := (fun X => X.cell? ⟨w.heap.size, 0, none⟩ = some (.int .i64 4) ∧ X.cell? ⟨w.heap.size, 1, none⟩ = some (.int .i64 mn) ∧ X.cell? ⟨w.heap.size, 2, none⟩ = some (.int .i64 mx) ∧ X.cell? ⟨w.heap.size, 3, none⟩ = some (.slice A ns.length ca) ∧ X.cell? ⟨w.heap.size, 4, none⟩ = some (.slice M ms.length ma) ∧ X.cell? ⟨w.heap.size, 5, none⟩ = some (.slice KA kids.length kc) ∧ X.cell? ⟨w.heap.size + 1, 0, none⟩ = some (.int .i64 jk) ∧ X.cell? ⟨w.heap.size + 1, 1, none⟩ = some (.bool jf) ∧ X.cell? ⟨w.heap.size + 1, 2, none⟩ = some (.string jt) ∧ X.cell? ⟨w.heap.size + 1, 3, none⟩ = some (.slice jA jns.length jca) ∧ X.cell? ⟨w.heap.size + 1, 4, none⟩ = some (.slice jK jkids.length jkc))) (by kernel_rfl) ?_ (fun hHeld => ?_)
  · exact HS.out _ (Below.refl _ _).drew
  (first
    | (refine held_take (i := 1) (v := ?_) rfl (by kernel_rfl) (by kernel_rfl) (by kernel_rfl) (fun _ _ _ h => h) (Or.inl ⟨rfl, ?_⟩) (by assumption) ?_; rotate_left; (intro X hSw; (try dsimp only at hSw); (go_simp <;> with_reducible rfl)))
    | (refine held_take (i := 1) (v := undef) rfl (by kernel_rfl) (by kernel_rfl) (by kernel_rfl) (fun _ _ _ h => h) (Or.inr ⟨rfl, rfl⟩) (by assumption) ?_)); simp only [Act.put, List.setIfInBounds_toArray, List.set_cons_zero, List.set_cons_succ]
  (first
    | (refine held_take (i := 2) (v := ?_) rfl (by kernel_rfl) (by kernel_rfl) (by kernel_rfl) (fun _ _ _ h => h) (Or.inl ⟨rfl, ?_⟩) (by assumption) ?_; rotate_left; (intro X hSw; (try dsimp only at hSw); (go_simp <;> with_reducible rfl)))
    | (refine held_take (i := 2) (v := undef) rfl (by kernel_rfl) (by kernel_rfl) (by kernel_rfl) (fun _ _ _ h => h) (Or.inr ⟨rfl, rfl⟩) (by assumption) ?_)); simp only [Act.put, List.setIfInBounds_toArray, List.set_cons_zero, List.set_cons_succ]
  (first
    | (refine held_take (i := 5) (v := ?_) rfl (by kernel_rfl) (by kernel_rfl) (by kernel_rfl) (fun _ _ _ h => h) (Or.inl ⟨rfl, ?_⟩) (by assumption) ?_; rotate_left; (intro X hSw; (try dsimp only at hSw); (go_simp <;> with_reducible rfl)))
    | (refine held_take (i := 5) (v := undef) rfl (by kernel_rfl) (by kernel_rfl) (by kernel_rfl) (fun _ _ _ h => h) (Or.inr ⟨rfl, rfl⟩) (by assumption) ?_)); simp only [Act.put, List.setIfInBounds_toArray, List.set_cons_zero, List.set_cons_succ]
  (first
    | (refine held_take (i := 6) (v := ?_) rfl (by kernel_rfl) (by kernel_rfl) (by kernel_rfl) (fun _ _ _ h => h) (Or.inl ⟨rfl, ?_⟩) (by assumption) ?_; rotate_left; (intro X hSw; (try dsimp only at hSw); (go_simp <;> with_reducible rfl)))
    | (refine held_take (i := 6) (v := undef) rfl (by kernel_rfl) (by kernel_rfl) (by kernel_rfl) (fun _ _ _ h => h) (Or.inr ⟨rfl, rfl⟩) (by assumption) ?_)); simp only [Act.put, List.setIfInBounds_toArray, List.set_cons_zero, List.set_cons_succ]
  refine wpAnyH_ready (rs := [0]) (by kernel_rfl) (by simp) ?_
  refine AllReadyH.cons rfl (fun K hK => ?_) AllReadyH.nil
  go_simp
  refine (kinds_any _).mono ?_
  rintro e w3 ⟨rfl, hb3⟩
  have HB3 : Hid (Below W0.heap.size W0 w3) := (Below.refl W0.heap.size W0).drew.trans hb3
  clear hb3 hHeld
  refine hK.out _ _ ?_ (fun hHeld => ?_)
  · exact HS.out _ HB3.out
  clear hK K
  have hix := ix4
  have hfx := gx4
  (first
    | (refine held_take (i := 3) (v := ?_) rfl (by kernel_rfl) (by kernel_rfl) (by kernel_rfl) (fun _ _ _ h => h) (Or.inl ⟨rfl, ?_⟩) (by assumption) ?_; rotate_left; (intro X hSw; (try dsimp only at hSw); (go_simp <;> with_reducible rfl)))
    | (refine held_take (i := 3) (v := undef) rfl (by kernel_rfl) (by kernel_rfl) (by kernel_rfl) (fun _ _ _ h => h) (Or.inr ⟨rfl, rfl⟩) (by assumption) ?_)); simp only [Act.put, List.setIfInBounds_toArray, List.set_cons_zero, List.set_cons_succ]
  (first
    | (refine held_take (i := 4) (v := ?_) rfl (by kernel_rfl) (by kernel_rfl) (by kernel_rfl) (fun _ _ _ h => h) (Or.inl ⟨rfl, ?_⟩) (by assumption) ?_; rotate_left; (intro X hSw; (try dsimp only at hSw); (go_simp <;> with_reducible rfl)))
    | (refine held_take (i := 4) (v := undef) rfl (by kernel_rfl) (by kernel_rfl) (by kernel_rfl) (fun _ _ _ h => h) (Or.inr ⟨rfl, rfl⟩) (by assumption) ?_)); simp only [Act.put, List.setIfInBounds_toArray, List.set_cons_zero, List.set_cons_succ]
  refine wpAnyH_ready (rs := [7]) (by kernel_rfl) (by simp) ?_
  refine AllReadyH.cons rfl (fun K hK => ?_) AllReadyH.nil
  go_simp
  refine (fitsText_any mn mx ns ms kids A M KA ca ma kc B0 jk jf jt jns jkids jA jK jca jkc B1 w3 (HV.out.keep HB3.out) HL.out HOK.out (HVJ.out.keep HB3.out) HLJJ.out HOKJ.out).mono ?_
  rintro e w4 ⟨r, rfl, hr, hb⟩
  have HR := Lib.hid hr
  have HB4 := Lib.hid (HBX.out.trans ((HB3.out.trans (hb.mono HB3.out.size)).mono HBX.out.size))
  have HB5 := Lib.hid (HB3.out.trans (hb.mono HB3.out.size))
  clear hr hb hHeld
  refine hK.out _ _ ?_ (fun hHeld => ?_)
  · exact HS.out _ HB5.out
  clear hK K
  (first
    | (refine held_take (i := 8) (v := ?_) rfl (by kernel_rfl) (by kernel_rfl) (by kernel_rfl) (fun _ _ _ h => h) (Or.inl ⟨rfl, ?_⟩) (by assumption) ?_; rotate_left; (intro X hSw; (try dsimp only at hSw); (go_simp <;> with_reducible rfl)))
    | (refine held_take (i := 8) (v := undef) rfl (by kernel_rfl) (by kernel_rfl) (by kernel_rfl) (fun _ _ _ h => h) (Or.inr ⟨rfl, rfl⟩) (by assumption) ?_)); simp only [Act.put, List.setIfInBounds_toArray, List.set_cons_zero, List.set_cons_succ]
  refine wpAnyH_done (by kernel_rfl) ?_ _
  go_wp2
  go_ret
  exact ⟨r, rfl, HR.out.trans HQ.out.symm, HB4.out⟩

theorem gx5 (w : World) : (Instr.field 92 (.agg #[.func (.func 103) #[] #[], .func (.func 104) #[] #[], .func (.func 105) #[] #[], .func (.func 106) #[] #[]]) 1).run Tryz.prog w = .ok (.func (.func 104) #[] #[]) w := by kernel_rfl
set_option maxRecDepth 100000 in
set_option maxHeartbeats 8000000 in
theorem giK5 {n : Nat} (IH : GiS n) (mn mx : Int) (ns : List ByteArray) (ms : List Bool) (kids : List Sc) (A M KA : Option Addr) (ca ma kc B0 : Nat) (jk : Int) (jf : Bool) (jt : ByteArray) (jns : List ByteArray) (jkids : List Js) (jA jK : Option Addr) (jca jkc B1 : Nat) (w : World) (hh : htS kids ≤ n) (hv : ScV w B0 ns ms kids A M KA) (hl : LimS 1048576 (.mk 5 mn mx ns ms kids)) (hok : SokP (.mk 5 mn mx ns ms kids)) (hvj : JsV w B1 jns jkids jA jK) (hlj : LimJ 1048576 (.mk jk jf jt jns jkids)) (hokj : JokP (.mk jk jf jt jns jkids)) :
    Calls Tryz.prog 49 #[.agg #[.int .i64 5, .int .i64 mn, .int .i64 mx, .slice A ns.length ca, .slice M ms.length ma, .slice KA kids.length kc], .agg #[.int .i64 jk, .bool jf, .string jt, .slice jA jns.length jca, .slice jK jkids.length jkc]] w (BoolPost (FitD (n + 1) (.mk 5 mn mx ns ms kids) (.mk jk jf jt jns jkids)) w) := by
  rw [show FitD (n + 1) (.mk 5 mn mx ns ms kids) (.mk jk jf jt jns jkids) = (jk = 5 ∧ (mn ≤ (jkids.length : Int) ∧ (jkids.length : Int) ≤ mx) ∧ ∀ q ∈ jkids, ∀ s ∈ kids.head?, FitD n s q) from propext fitD5]
  obtain ⟨Q, hQ⟩ : ∃ Q : Prop, Q ↔ (jk = 5 ∧ (mn ≤ (jkids.length : Int) ∧ (jkids.length : Int) ≤ mx) ∧ ∀ q ∈ jkids, ∀ s ∈ kids.head?, FitD n s q) := ⟨_, Iff.rfl⟩
  rw [show (jk = 5 ∧ (mn ≤ (jkids.length : Int) ∧ (jkids.length : Int) ≤ mx) ∧ ∀ q ∈ jkids, ∀ s ∈ kids.head?, FitD n s q) = Q from (propext hQ).symm]
  have HQ := Lib.hid hQ
  obtain ⟨W0, hW0⟩ : ∃ W0, (w.alloc (.cells #[.int .i64 5, .int .i64 mn, .int .i64 mx, .slice A ns.length ca, .slice M ms.length ma, .slice KA kids.length kc] 31)).alloc (.cells #[.int .i64 jk, .bool jf, .string jt, .slice jA jns.length jca, .slice jK jkids.length jkc] 42) = W0 := ⟨_, rfl⟩
  have HBX : Hid (Below w.heap.size w W0) := by rw [← hW0]; exact (below_box _).alloc (by simp) _
  have HOS : Hid (Own W0 w.heap.size 31 (c6 5 mn mx A ns.length ca M ms.length ma KA kids.length kc)) := by rw [← hW0]; exact (Own.new w 31 #[.int .i64 5, .int .i64 mn, .int .i64 mx, .slice A ns.length ca, .slice M ms.length ma, .slice KA kids.length kc]).alloc _
  have HOJ : Hid (Own W0 (w.heap.size + 1) 42 (c5 jk jf jt jA jns.length jca jK jkids.length jkc)) := by
    rw [← hW0]
    have := Own.new (w.alloc (.cells #[.int .i64 5, .int .i64 mn, .int .i64 mx, .slice A ns.length ca, .slice M ms.length ma, .slice KA kids.length kc] 31)) 42 #[.int .i64 jk, .bool jf, .string jt, .slice jA jns.length jca, .slice jK jkids.length jkc]
    rw [World.size_alloc] at this
    exact this
  have HV := Lib.hid (hv.keep HBX.out)
  have HVJ := Lib.hid (hvj.keep HBX.out)
  have HI := Lib.hid IH
  have HH := Lib.hid hh
  have HOK := Lib.hid hok
  have HOKJ := Lib.hid hokj
  have HLJJ := Lib.hid hlj
  have HLL := Lib.hid hl
  cases hl with
  | mk _ _ _ _ _ _ l2 l3 lm l4 l5 lb =>
  cases hlj with
  | mk _ _ _ _ _ m1 m2 m3 m4 m5 =>
  have HL5 := Lib.hid l5
  have HM5 := Lib.hid m5
  have HW := Lib.hid hW0
  clear hQ hW0 hv hvj IH hh hok hokj l3 l5 lb m3 m5
  have HL : Hid (LimS 1048576 (.mk 5 mn mx ns ms kids)) := HLL
  go_enter Tryz.func49, Tryz.ntmps49
  go_upto_region 1 with fail
  rw [HW.out]
  clear HW
  have HS : Hid (∀ X, Below W0.heap.size W0 X → (fun X => X.cell? ⟨w.heap.size, 0, none⟩ = some (.int .i64 5) ∧ X.cell? ⟨w.heap.size, 1, none⟩ = some (.int .i64 mn) ∧ X.cell? ⟨w.heap.size, 2, none⟩ = some (.int .i64 mx) ∧ X.cell? ⟨w.heap.size, 3, none⟩ = some (.slice A ns.length ca) ∧ X.cell? ⟨w.heap.size, 4, none⟩ = some (.slice M ms.length ma) ∧ X.cell? ⟨w.heap.size, 5, none⟩ = some (.slice KA kids.length kc) ∧ X.cell? ⟨w.heap.size + 1, 0, none⟩ = some (.int .i64 jk) ∧ X.cell? ⟨w.heap.size + 1, 1, none⟩ = some (.bool jf) ∧ X.cell? ⟨w.heap.size + 1, 2, none⟩ = some (.string jt) ∧ X.cell? ⟨w.heap.size + 1, 3, none⟩ = some (.slice jA jns.length jca) ∧ X.cell? ⟨w.heap.size + 1, 4, none⟩ = some (.slice jK jkids.length jkc)) X) := fun X h => ⟨cell_keep h (c6_get HOS.out).1, cell_keep h (c6_get HOS.out).2.1, cell_keep h (c6_get HOS.out).2.2.1, cell_keep h (c6_get HOS.out).2.2.2.1, cell_keep h (c6_get HOS.out).2.2.2.2.1, cell_keep h (c6_get HOS.out).2.2.2.2.2, cell_keep h (c5_get HOJ.out).1, cell_keep h (c5_get HOJ.out).2.1, cell_keep h (c5_get HOJ.out).2.2.1, cell_keep h (c5_get HOJ.out).2.2.2.1, cell_keep h (c5_get HOJ.out).2.2.2.2⟩
  refine wp_region_held_drew (S := (fun X => X.cell? ⟨w.heap.size, 0, none⟩ = some (.int .i64 5) ∧ X.cell? ⟨w.heap.size, 1, none⟩ = some (.int .i64 mn) ∧ X.cell? ⟨w.heap.size, 2, none⟩ = some (.int .i64 mx) ∧ X.cell? ⟨w.heap.size, 3, none⟩ = some (.slice A ns.length ca) ∧ X.cell? ⟨w.heap.size, 4, none⟩ = some (.slice M ms.length ma) ∧ X.cell? ⟨w.heap.size, 5, none⟩ = some (.slice KA kids.length kc) ∧ X.cell? ⟨w.heap.size + 1, 0, none⟩ = some (.int .i64 jk) ∧ X.cell? ⟨w.heap.size + 1, 1, none⟩ = some (.bool jf) ∧ X.cell? ⟨w.heap.size + 1, 2, none⟩ = some (.string jt) ∧ X.cell? ⟨w.heap.size + 1, 3, none⟩ = some (.slice jA jns.length jca) ∧ X.cell? ⟨w.heap.size + 1, 4, none⟩ = some (.slice jK jkids.length jkc))) (by kernel_rfl) ?_ (fun hHeld => ?_)
  · exact HS.out _ (Below.refl _ _).drew
  (first
    | (refine held_take (i := 1) (v := ?_) rfl (by kernel_rfl) (by kernel_rfl) (by kernel_rfl) (fun _ _ _ h => h) (Or.inl ⟨rfl, ?_⟩) (by assumption) ?_; rotate_left; (intro X hSw; (try dsimp only at hSw); (go_simp <;> with_reducible rfl)))
    | (refine held_take (i := 1) (v := undef) rfl (by kernel_rfl) (by kernel_rfl) (by kernel_rfl) (fun _ _ _ h => h) (Or.inr ⟨rfl, rfl⟩) (by assumption) ?_)); simp only [Act.put, List.setIfInBounds_toArray, List.set_cons_zero, List.set_cons_succ]
  (first
    | (refine held_take (i := 2) (v := ?_) rfl (by kernel_rfl) (by kernel_rfl) (by kernel_rfl) (fun _ _ _ h => h) (Or.inl ⟨rfl, ?_⟩) (by assumption) ?_; rotate_left; (intro X hSw; (try dsimp only at hSw); (go_simp <;> with_reducible rfl)))
    | (refine held_take (i := 2) (v := undef) rfl (by kernel_rfl) (by kernel_rfl) (by kernel_rfl) (fun _ _ _ h => h) (Or.inr ⟨rfl, rfl⟩) (by assumption) ?_)); simp only [Act.put, List.setIfInBounds_toArray, List.set_cons_zero, List.set_cons_succ]
  (first
    | (refine held_take (i := 5) (v := ?_) rfl (by kernel_rfl) (by kernel_rfl) (by kernel_rfl) (fun _ _ _ h => h) (Or.inl ⟨rfl, ?_⟩) (by assumption) ?_; rotate_left; (intro X hSw; (try dsimp only at hSw); (go_simp <;> with_reducible rfl)))
    | (refine held_take (i := 5) (v := undef) rfl (by kernel_rfl) (by kernel_rfl) (by kernel_rfl) (fun _ _ _ h => h) (Or.inr ⟨rfl, rfl⟩) (by assumption) ?_)); simp only [Act.put, List.setIfInBounds_toArray, List.set_cons_zero, List.set_cons_succ]
  (first
    | (refine held_take (i := 6) (v := ?_) rfl (by kernel_rfl) (by kernel_rfl) (by kernel_rfl) (fun _ _ _ h => h) (Or.inl ⟨rfl, ?_⟩) (by assumption) ?_; rotate_left; (intro X hSw; (try dsimp only at hSw); (go_simp <;> with_reducible rfl)))
    | (refine held_take (i := 6) (v := undef) rfl (by kernel_rfl) (by kernel_rfl) (by kernel_rfl) (fun _ _ _ h => h) (Or.inr ⟨rfl, rfl⟩) (by assumption) ?_)); simp only [Act.put, List.setIfInBounds_toArray, List.set_cons_zero, List.set_cons_succ]
  refine wpAnyH_ready (rs := [0]) (by kernel_rfl) (by simp) ?_
  refine AllReadyH.cons rfl (fun K hK => ?_) AllReadyH.nil
  go_simp
  refine (kinds_any _).mono ?_
  rintro e w3 ⟨rfl, hb3⟩
  have HB3 : Hid (Below W0.heap.size W0 w3) := (Below.refl W0.heap.size W0).drew.trans hb3
  clear hb3 hHeld
  refine hK.out _ _ ?_ (fun hHeld => ?_)
  · exact HS.out _ HB3.out
  clear hK K
  have hix := ix5
  have hfx := gx5
  (first
    | (refine held_take (i := 3) (v := ?_) rfl (by kernel_rfl) (by kernel_rfl) (by kernel_rfl) (fun _ _ _ h => h) (Or.inl ⟨rfl, ?_⟩) (by assumption) ?_; rotate_left; (intro X hSw; (try dsimp only at hSw); (go_simp <;> with_reducible rfl)))
    | (refine held_take (i := 3) (v := undef) rfl (by kernel_rfl) (by kernel_rfl) (by kernel_rfl) (fun _ _ _ h => h) (Or.inr ⟨rfl, rfl⟩) (by assumption) ?_)); simp only [Act.put, List.setIfInBounds_toArray, List.set_cons_zero, List.set_cons_succ]
  (first
    | (refine held_take (i := 4) (v := ?_) rfl (by kernel_rfl) (by kernel_rfl) (by kernel_rfl) (fun _ _ _ h => h) (Or.inl ⟨rfl, ?_⟩) (by assumption) ?_; rotate_left; (intro X hSw; (try dsimp only at hSw); (go_simp <;> with_reducible rfl)))
    | (refine held_take (i := 4) (v := undef) rfl (by kernel_rfl) (by kernel_rfl) (by kernel_rfl) (fun _ _ _ h => h) (Or.inr ⟨rfl, rfl⟩) (by assumption) ?_)); simp only [Act.put, List.setIfInBounds_toArray, List.set_cons_zero, List.set_cons_succ]
  refine wpAnyH_ready (rs := [7]) (by kernel_rfl) (by simp) ?_
  refine AllReadyH.cons rfl (fun K hK => ?_) AllReadyH.nil
  go_simp
  refine (fitsList_any HI.out mn mx ns ms kids A M KA ca ma kc B0 jk jf jt jns jkids jA jK jca jkc B1 w3 HH.out (HV.out.keep HB3.out) HL.out HOK.out (HVJ.out.keep HB3.out) HLJJ.out HOKJ.out).mono ?_
  rintro e w4 ⟨r, rfl, hr, hb⟩
  have HR := Lib.hid hr
  have HB4 := Lib.hid (HBX.out.trans ((HB3.out.trans (hb.mono HB3.out.size)).mono HBX.out.size))
  have HB5 := Lib.hid (HB3.out.trans (hb.mono HB3.out.size))
  clear hr hb hHeld
  refine hK.out _ _ ?_ (fun hHeld => ?_)
  · exact HS.out _ HB5.out
  clear hK K
  (first
    | (refine held_take (i := 8) (v := ?_) rfl (by kernel_rfl) (by kernel_rfl) (by kernel_rfl) (fun _ _ _ h => h) (Or.inl ⟨rfl, ?_⟩) (by assumption) ?_; rotate_left; (intro X hSw; (try dsimp only at hSw); (go_simp <;> with_reducible rfl)))
    | (refine held_take (i := 8) (v := undef) rfl (by kernel_rfl) (by kernel_rfl) (by kernel_rfl) (fun _ _ _ h => h) (Or.inr ⟨rfl, rfl⟩) (by assumption) ?_)); simp only [Act.put, List.setIfInBounds_toArray, List.set_cons_zero, List.set_cons_succ]
  refine wpAnyH_done (by kernel_rfl) ?_ _
  go_wp2
  go_ret
  exact ⟨r, rfl, HR.out.trans HQ.out.symm, HB4.out⟩

theorem gx6 (w : World) : (Instr.field 92 (.agg #[.func (.func 107) #[] #[], .func (.func 108) #[] #[], .func (.func 109) #[] #[], .func (.func 110) #[] #[]]) 1).run Tryz.prog w = .ok (.func (.func 108) #[] #[]) w := by kernel_rfl
set_option maxRecDepth 100000 in
set_option maxHeartbeats 8000000 in
theorem giK6 {n : Nat} (IH : GiS n) (mn mx : Int) (ns : List ByteArray) (ms : List Bool) (kids : List Sc) (A M KA : Option Addr) (ca ma kc B0 : Nat) (jk : Int) (jf : Bool) (jt : ByteArray) (jns : List ByteArray) (jkids : List Js) (jA jK : Option Addr) (jca jkc B1 : Nat) (w : World) (hh : htS kids ≤ n) (hv : ScV w B0 ns ms kids A M KA) (hl : LimS 1048576 (.mk 6 mn mx ns ms kids)) (hok : SokP (.mk 6 mn mx ns ms kids)) (hvj : JsV w B1 jns jkids jA jK) (hlj : LimJ 1048576 (.mk jk jf jt jns jkids)) (hokj : JokP (.mk jk jf jt jns jkids)) :
    Calls Tryz.prog 49 #[.agg #[.int .i64 6, .int .i64 mn, .int .i64 mx, .slice A ns.length ca, .slice M ms.length ma, .slice KA kids.length kc], .agg #[.int .i64 jk, .bool jf, .string jt, .slice jA jns.length jca, .slice jK jkids.length jkc]] w (BoolPost (FitD (n + 1) (.mk 6 mn mx ns ms kids) (.mk jk jf jt jns jkids)) w) := by
  rw [show FitD (n + 1) (.mk 6 mn mx ns ms kids) (.mk jk jf jt jns jkids) = (jk = 6 ∧ memP (FitD n) (sZip ns ms kids) (jZip jns jkids)) from propext fitD6]
  obtain ⟨Q, hQ⟩ : ∃ Q : Prop, Q ↔ (jk = 6 ∧ memP (FitD n) (sZip ns ms kids) (jZip jns jkids)) := ⟨_, Iff.rfl⟩
  rw [show (jk = 6 ∧ memP (FitD n) (sZip ns ms kids) (jZip jns jkids)) = Q from (propext hQ).symm]
  have HQ := Lib.hid hQ
  obtain ⟨W0, hW0⟩ : ∃ W0, (w.alloc (.cells #[.int .i64 6, .int .i64 mn, .int .i64 mx, .slice A ns.length ca, .slice M ms.length ma, .slice KA kids.length kc] 31)).alloc (.cells #[.int .i64 jk, .bool jf, .string jt, .slice jA jns.length jca, .slice jK jkids.length jkc] 42) = W0 := ⟨_, rfl⟩
  have HBX : Hid (Below w.heap.size w W0) := by rw [← hW0]; exact (below_box _).alloc (by simp) _
  have HOS : Hid (Own W0 w.heap.size 31 (c6 6 mn mx A ns.length ca M ms.length ma KA kids.length kc)) := by rw [← hW0]; exact (Own.new w 31 #[.int .i64 6, .int .i64 mn, .int .i64 mx, .slice A ns.length ca, .slice M ms.length ma, .slice KA kids.length kc]).alloc _
  have HOJ : Hid (Own W0 (w.heap.size + 1) 42 (c5 jk jf jt jA jns.length jca jK jkids.length jkc)) := by
    rw [← hW0]
    have := Own.new (w.alloc (.cells #[.int .i64 6, .int .i64 mn, .int .i64 mx, .slice A ns.length ca, .slice M ms.length ma, .slice KA kids.length kc] 31)) 42 #[.int .i64 jk, .bool jf, .string jt, .slice jA jns.length jca, .slice jK jkids.length jkc]
    rw [World.size_alloc] at this
    exact this
  have HV := Lib.hid (hv.keep HBX.out)
  have HVJ := Lib.hid (hvj.keep HBX.out)
  have HI := Lib.hid IH
  have HH := Lib.hid hh
  have HOK := Lib.hid hok
  have HOKJ := Lib.hid hokj
  have HLJJ := Lib.hid hlj
  have HLL := Lib.hid hl
  cases hl with
  | mk _ _ _ _ _ _ l2 l3 lm l4 l5 lb =>
  cases hlj with
  | mk _ _ _ _ _ m1 m2 m3 m4 m5 =>
  have HL5 := Lib.hid l5
  have HM5 := Lib.hid m5
  have HW := Lib.hid hW0
  clear hQ hW0 hv hvj IH hh hok hokj l3 l5 lb m3 m5
  have HL : Hid (LimS 1048576 (.mk 6 mn mx ns ms kids)) := HLL
  go_enter Tryz.func49, Tryz.ntmps49
  go_upto_region 1 with fail
  rw [HW.out]
  clear HW
  have HS : Hid (∀ X, Below W0.heap.size W0 X → (fun X => X.cell? ⟨w.heap.size, 0, none⟩ = some (.int .i64 6) ∧ X.cell? ⟨w.heap.size, 1, none⟩ = some (.int .i64 mn) ∧ X.cell? ⟨w.heap.size, 2, none⟩ = some (.int .i64 mx) ∧ X.cell? ⟨w.heap.size, 3, none⟩ = some (.slice A ns.length ca) ∧ X.cell? ⟨w.heap.size, 4, none⟩ = some (.slice M ms.length ma) ∧ X.cell? ⟨w.heap.size, 5, none⟩ = some (.slice KA kids.length kc) ∧ X.cell? ⟨w.heap.size + 1, 0, none⟩ = some (.int .i64 jk) ∧ X.cell? ⟨w.heap.size + 1, 1, none⟩ = some (.bool jf) ∧ X.cell? ⟨w.heap.size + 1, 2, none⟩ = some (.string jt) ∧ X.cell? ⟨w.heap.size + 1, 3, none⟩ = some (.slice jA jns.length jca) ∧ X.cell? ⟨w.heap.size + 1, 4, none⟩ = some (.slice jK jkids.length jkc)) X) := fun X h => ⟨cell_keep h (c6_get HOS.out).1, cell_keep h (c6_get HOS.out).2.1, cell_keep h (c6_get HOS.out).2.2.1, cell_keep h (c6_get HOS.out).2.2.2.1, cell_keep h (c6_get HOS.out).2.2.2.2.1, cell_keep h (c6_get HOS.out).2.2.2.2.2, cell_keep h (c5_get HOJ.out).1, cell_keep h (c5_get HOJ.out).2.1, cell_keep h (c5_get HOJ.out).2.2.1, cell_keep h (c5_get HOJ.out).2.2.2.1, cell_keep h (c5_get HOJ.out).2.2.2.2⟩
  refine wp_region_held_drew (S := (fun X => X.cell? ⟨w.heap.size, 0, none⟩ = some (.int .i64 6) ∧ X.cell? ⟨w.heap.size, 1, none⟩ = some (.int .i64 mn) ∧ X.cell? ⟨w.heap.size, 2, none⟩ = some (.int .i64 mx) ∧ X.cell? ⟨w.heap.size, 3, none⟩ = some (.slice A ns.length ca) ∧ X.cell? ⟨w.heap.size, 4, none⟩ = some (.slice M ms.length ma) ∧ X.cell? ⟨w.heap.size, 5, none⟩ = some (.slice KA kids.length kc) ∧ X.cell? ⟨w.heap.size + 1, 0, none⟩ = some (.int .i64 jk) ∧ X.cell? ⟨w.heap.size + 1, 1, none⟩ = some (.bool jf) ∧ X.cell? ⟨w.heap.size + 1, 2, none⟩ = some (.string jt) ∧ X.cell? ⟨w.heap.size + 1, 3, none⟩ = some (.slice jA jns.length jca) ∧ X.cell? ⟨w.heap.size + 1, 4, none⟩ = some (.slice jK jkids.length jkc))) (by kernel_rfl) ?_ (fun hHeld => ?_)
  · exact HS.out _ (Below.refl _ _).drew
  (first
    | (refine held_take (i := 1) (v := ?_) rfl (by kernel_rfl) (by kernel_rfl) (by kernel_rfl) (fun _ _ _ h => h) (Or.inl ⟨rfl, ?_⟩) (by assumption) ?_; rotate_left; (intro X hSw; (try dsimp only at hSw); (go_simp <;> with_reducible rfl)))
    | (refine held_take (i := 1) (v := undef) rfl (by kernel_rfl) (by kernel_rfl) (by kernel_rfl) (fun _ _ _ h => h) (Or.inr ⟨rfl, rfl⟩) (by assumption) ?_)); simp only [Act.put, List.setIfInBounds_toArray, List.set_cons_zero, List.set_cons_succ]
  (first
    | (refine held_take (i := 2) (v := ?_) rfl (by kernel_rfl) (by kernel_rfl) (by kernel_rfl) (fun _ _ _ h => h) (Or.inl ⟨rfl, ?_⟩) (by assumption) ?_; rotate_left; (intro X hSw; (try dsimp only at hSw); (go_simp <;> with_reducible rfl)))
    | (refine held_take (i := 2) (v := undef) rfl (by kernel_rfl) (by kernel_rfl) (by kernel_rfl) (fun _ _ _ h => h) (Or.inr ⟨rfl, rfl⟩) (by assumption) ?_)); simp only [Act.put, List.setIfInBounds_toArray, List.set_cons_zero, List.set_cons_succ]
  (first
    | (refine held_take (i := 5) (v := ?_) rfl (by kernel_rfl) (by kernel_rfl) (by kernel_rfl) (fun _ _ _ h => h) (Or.inl ⟨rfl, ?_⟩) (by assumption) ?_; rotate_left; (intro X hSw; (try dsimp only at hSw); (go_simp <;> with_reducible rfl)))
    | (refine held_take (i := 5) (v := undef) rfl (by kernel_rfl) (by kernel_rfl) (by kernel_rfl) (fun _ _ _ h => h) (Or.inr ⟨rfl, rfl⟩) (by assumption) ?_)); simp only [Act.put, List.setIfInBounds_toArray, List.set_cons_zero, List.set_cons_succ]
  (first
    | (refine held_take (i := 6) (v := ?_) rfl (by kernel_rfl) (by kernel_rfl) (by kernel_rfl) (fun _ _ _ h => h) (Or.inl ⟨rfl, ?_⟩) (by assumption) ?_; rotate_left; (intro X hSw; (try dsimp only at hSw); (go_simp <;> with_reducible rfl)))
    | (refine held_take (i := 6) (v := undef) rfl (by kernel_rfl) (by kernel_rfl) (by kernel_rfl) (fun _ _ _ h => h) (Or.inr ⟨rfl, rfl⟩) (by assumption) ?_)); simp only [Act.put, List.setIfInBounds_toArray, List.set_cons_zero, List.set_cons_succ]
  refine wpAnyH_ready (rs := [0]) (by kernel_rfl) (by simp) ?_
  refine AllReadyH.cons rfl (fun K hK => ?_) AllReadyH.nil
  go_simp
  refine (kinds_any _).mono ?_
  rintro e w3 ⟨rfl, hb3⟩
  have HB3 : Hid (Below W0.heap.size W0 w3) := (Below.refl W0.heap.size W0).drew.trans hb3
  clear hb3 hHeld
  refine hK.out _ _ ?_ (fun hHeld => ?_)
  · exact HS.out _ HB3.out
  clear hK K
  have hix := ix6
  have hfx := gx6
  (first
    | (refine held_take (i := 3) (v := ?_) rfl (by kernel_rfl) (by kernel_rfl) (by kernel_rfl) (fun _ _ _ h => h) (Or.inl ⟨rfl, ?_⟩) (by assumption) ?_; rotate_left; (intro X hSw; (try dsimp only at hSw); (go_simp <;> with_reducible rfl)))
    | (refine held_take (i := 3) (v := undef) rfl (by kernel_rfl) (by kernel_rfl) (by kernel_rfl) (fun _ _ _ h => h) (Or.inr ⟨rfl, rfl⟩) (by assumption) ?_)); simp only [Act.put, List.setIfInBounds_toArray, List.set_cons_zero, List.set_cons_succ]
  (first
    | (refine held_take (i := 4) (v := ?_) rfl (by kernel_rfl) (by kernel_rfl) (by kernel_rfl) (fun _ _ _ h => h) (Or.inl ⟨rfl, ?_⟩) (by assumption) ?_; rotate_left; (intro X hSw; (try dsimp only at hSw); (go_simp <;> with_reducible rfl)))
    | (refine held_take (i := 4) (v := undef) rfl (by kernel_rfl) (by kernel_rfl) (by kernel_rfl) (fun _ _ _ h => h) (Or.inr ⟨rfl, rfl⟩) (by assumption) ?_)); simp only [Act.put, List.setIfInBounds_toArray, List.set_cons_zero, List.set_cons_succ]
  refine wpAnyH_ready (rs := [7]) (by kernel_rfl) (by simp) ?_
  refine AllReadyH.cons rfl (fun K hK => ?_) AllReadyH.nil
  go_simp
  refine (fitsForm_any HI.out mn mx ns ms kids A M KA ca ma kc B0 jk jf jt jns jkids jA jK jca jkc B1 w3 HH.out (HV.out.keep HB3.out) HL.out HOK.out (HVJ.out.keep HB3.out) HLJJ.out HOKJ.out).mono ?_
  rintro e w4 ⟨r, rfl, hr, hb⟩
  have HR := Lib.hid hr
  have HB4 := Lib.hid (HBX.out.trans ((HB3.out.trans (hb.mono HB3.out.size)).mono HBX.out.size))
  have HB5 := Lib.hid (HB3.out.trans (hb.mono HB3.out.size))
  clear hr hb hHeld
  refine hK.out _ _ ?_ (fun hHeld => ?_)
  · exact HS.out _ HB5.out
  clear hK K
  (first
    | (refine held_take (i := 8) (v := ?_) rfl (by kernel_rfl) (by kernel_rfl) (by kernel_rfl) (fun _ _ _ h => h) (Or.inl ⟨rfl, ?_⟩) (by assumption) ?_; rotate_left; (intro X hSw; (try dsimp only at hSw); (go_simp <;> with_reducible rfl)))
    | (refine held_take (i := 8) (v := undef) rfl (by kernel_rfl) (by kernel_rfl) (by kernel_rfl) (fun _ _ _ h => h) (Or.inr ⟨rfl, rfl⟩) (by assumption) ?_)); simp only [Act.put, List.setIfInBounds_toArray, List.set_cons_zero, List.set_cons_succ]
  refine wpAnyH_done (by kernel_rfl) ?_ _
  go_wp2
  go_ret
  exact ⟨r, rfl, HR.out.trans HQ.out.symm, HB4.out⟩

theorem gx7 (w : World) : (Instr.field 92 (.agg #[.func (.func 111) #[] #[], .func (.func 112) #[] #[], .func (.func 113) #[] #[], .func (.func 114) #[] #[]]) 1).run Tryz.prog w = .ok (.func (.func 112) #[] #[]) w := by kernel_rfl
set_option maxRecDepth 100000 in
set_option maxHeartbeats 8000000 in
theorem giK7 {n : Nat} (IH : GiS n) (mn mx : Int) (ns : List ByteArray) (ms : List Bool) (kids : List Sc) (A M KA : Option Addr) (ca ma kc B0 : Nat) (jk : Int) (jf : Bool) (jt : ByteArray) (jns : List ByteArray) (jkids : List Js) (jA jK : Option Addr) (jca jkc B1 : Nat) (w : World) (hh : htS kids ≤ n) (hv : ScV w B0 ns ms kids A M KA) (hl : LimS 1048576 (.mk 7 mn mx ns ms kids)) (hok : SokP (.mk 7 mn mx ns ms kids)) (hvj : JsV w B1 jns jkids jA jK) (hlj : LimJ 1048576 (.mk jk jf jt jns jkids)) (hokj : JokP (.mk jk jf jt jns jkids)) :
    Calls Tryz.prog 49 #[.agg #[.int .i64 7, .int .i64 mn, .int .i64 mx, .slice A ns.length ca, .slice M ms.length ma, .slice KA kids.length kc], .agg #[.int .i64 jk, .bool jf, .string jt, .slice jA jns.length jca, .slice jK jkids.length jkc]] w (BoolPost (FitD (n + 1) (.mk 7 mn mx ns ms kids) (.mk jk jf jt jns jkids)) w) := by
  rw [show FitD (n + 1) (.mk 7 mn mx ns ms kids) (.mk jk jf jt jns jkids) = (∃ s ∈ kids, FitD n s (.mk jk jf jt jns jkids)) from propext fitD7]
  obtain ⟨Q, hQ⟩ : ∃ Q : Prop, Q ↔ (∃ s ∈ kids, FitD n s (.mk jk jf jt jns jkids)) := ⟨_, Iff.rfl⟩
  rw [show (∃ s ∈ kids, FitD n s (.mk jk jf jt jns jkids)) = Q from (propext hQ).symm]
  have HQ := Lib.hid hQ
  obtain ⟨W0, hW0⟩ : ∃ W0, (w.alloc (.cells #[.int .i64 7, .int .i64 mn, .int .i64 mx, .slice A ns.length ca, .slice M ms.length ma, .slice KA kids.length kc] 31)).alloc (.cells #[.int .i64 jk, .bool jf, .string jt, .slice jA jns.length jca, .slice jK jkids.length jkc] 42) = W0 := ⟨_, rfl⟩
  have HBX : Hid (Below w.heap.size w W0) := by rw [← hW0]; exact (below_box _).alloc (by simp) _
  have HOS : Hid (Own W0 w.heap.size 31 (c6 7 mn mx A ns.length ca M ms.length ma KA kids.length kc)) := by rw [← hW0]; exact (Own.new w 31 #[.int .i64 7, .int .i64 mn, .int .i64 mx, .slice A ns.length ca, .slice M ms.length ma, .slice KA kids.length kc]).alloc _
  have HOJ : Hid (Own W0 (w.heap.size + 1) 42 (c5 jk jf jt jA jns.length jca jK jkids.length jkc)) := by
    rw [← hW0]
    have := Own.new (w.alloc (.cells #[.int .i64 7, .int .i64 mn, .int .i64 mx, .slice A ns.length ca, .slice M ms.length ma, .slice KA kids.length kc] 31)) 42 #[.int .i64 jk, .bool jf, .string jt, .slice jA jns.length jca, .slice jK jkids.length jkc]
    rw [World.size_alloc] at this
    exact this
  have HV := Lib.hid (hv.keep HBX.out)
  have HVJ := Lib.hid (hvj.keep HBX.out)
  have HI := Lib.hid IH
  have HH := Lib.hid hh
  have HOK := Lib.hid hok
  have HOKJ := Lib.hid hokj
  have HLJJ := Lib.hid hlj
  have HLL := Lib.hid hl
  cases hl with
  | mk _ _ _ _ _ _ l2 l3 lm l4 l5 lb =>
  cases hlj with
  | mk _ _ _ _ _ m1 m2 m3 m4 m5 =>
  have HL5 := Lib.hid l5
  have HM5 := Lib.hid m5
  have HW := Lib.hid hW0
  clear hQ hW0 hv hvj IH hh hok hokj l3 l5 lb m3 m5
  have HL : Hid (LimS 1048576 (.mk 7 mn mx ns ms kids)) := HLL
  go_enter Tryz.func49, Tryz.ntmps49
  go_upto_region 1 with fail
  rw [HW.out]
  clear HW
  have HS : Hid (∀ X, Below W0.heap.size W0 X → (fun X => X.cell? ⟨w.heap.size, 0, none⟩ = some (.int .i64 7) ∧ X.cell? ⟨w.heap.size, 1, none⟩ = some (.int .i64 mn) ∧ X.cell? ⟨w.heap.size, 2, none⟩ = some (.int .i64 mx) ∧ X.cell? ⟨w.heap.size, 3, none⟩ = some (.slice A ns.length ca) ∧ X.cell? ⟨w.heap.size, 4, none⟩ = some (.slice M ms.length ma) ∧ X.cell? ⟨w.heap.size, 5, none⟩ = some (.slice KA kids.length kc) ∧ X.cell? ⟨w.heap.size + 1, 0, none⟩ = some (.int .i64 jk) ∧ X.cell? ⟨w.heap.size + 1, 1, none⟩ = some (.bool jf) ∧ X.cell? ⟨w.heap.size + 1, 2, none⟩ = some (.string jt) ∧ X.cell? ⟨w.heap.size + 1, 3, none⟩ = some (.slice jA jns.length jca) ∧ X.cell? ⟨w.heap.size + 1, 4, none⟩ = some (.slice jK jkids.length jkc)) X) := fun X h => ⟨cell_keep h (c6_get HOS.out).1, cell_keep h (c6_get HOS.out).2.1, cell_keep h (c6_get HOS.out).2.2.1, cell_keep h (c6_get HOS.out).2.2.2.1, cell_keep h (c6_get HOS.out).2.2.2.2.1, cell_keep h (c6_get HOS.out).2.2.2.2.2, cell_keep h (c5_get HOJ.out).1, cell_keep h (c5_get HOJ.out).2.1, cell_keep h (c5_get HOJ.out).2.2.1, cell_keep h (c5_get HOJ.out).2.2.2.1, cell_keep h (c5_get HOJ.out).2.2.2.2⟩
  refine wp_region_held_drew (S := (fun X => X.cell? ⟨w.heap.size, 0, none⟩ = some (.int .i64 7) ∧ X.cell? ⟨w.heap.size, 1, none⟩ = some (.int .i64 mn) ∧ X.cell? ⟨w.heap.size, 2, none⟩ = some (.int .i64 mx) ∧ X.cell? ⟨w.heap.size, 3, none⟩ = some (.slice A ns.length ca) ∧ X.cell? ⟨w.heap.size, 4, none⟩ = some (.slice M ms.length ma) ∧ X.cell? ⟨w.heap.size, 5, none⟩ = some (.slice KA kids.length kc) ∧ X.cell? ⟨w.heap.size + 1, 0, none⟩ = some (.int .i64 jk) ∧ X.cell? ⟨w.heap.size + 1, 1, none⟩ = some (.bool jf) ∧ X.cell? ⟨w.heap.size + 1, 2, none⟩ = some (.string jt) ∧ X.cell? ⟨w.heap.size + 1, 3, none⟩ = some (.slice jA jns.length jca) ∧ X.cell? ⟨w.heap.size + 1, 4, none⟩ = some (.slice jK jkids.length jkc))) (by kernel_rfl) ?_ (fun hHeld => ?_)
  · exact HS.out _ (Below.refl _ _).drew
  (first
    | (refine held_take (i := 1) (v := ?_) rfl (by kernel_rfl) (by kernel_rfl) (by kernel_rfl) (fun _ _ _ h => h) (Or.inl ⟨rfl, ?_⟩) (by assumption) ?_; rotate_left; (intro X hSw; (try dsimp only at hSw); (go_simp <;> with_reducible rfl)))
    | (refine held_take (i := 1) (v := undef) rfl (by kernel_rfl) (by kernel_rfl) (by kernel_rfl) (fun _ _ _ h => h) (Or.inr ⟨rfl, rfl⟩) (by assumption) ?_)); simp only [Act.put, List.setIfInBounds_toArray, List.set_cons_zero, List.set_cons_succ]
  (first
    | (refine held_take (i := 2) (v := ?_) rfl (by kernel_rfl) (by kernel_rfl) (by kernel_rfl) (fun _ _ _ h => h) (Or.inl ⟨rfl, ?_⟩) (by assumption) ?_; rotate_left; (intro X hSw; (try dsimp only at hSw); (go_simp <;> with_reducible rfl)))
    | (refine held_take (i := 2) (v := undef) rfl (by kernel_rfl) (by kernel_rfl) (by kernel_rfl) (fun _ _ _ h => h) (Or.inr ⟨rfl, rfl⟩) (by assumption) ?_)); simp only [Act.put, List.setIfInBounds_toArray, List.set_cons_zero, List.set_cons_succ]
  (first
    | (refine held_take (i := 5) (v := ?_) rfl (by kernel_rfl) (by kernel_rfl) (by kernel_rfl) (fun _ _ _ h => h) (Or.inl ⟨rfl, ?_⟩) (by assumption) ?_; rotate_left; (intro X hSw; (try dsimp only at hSw); (go_simp <;> with_reducible rfl)))
    | (refine held_take (i := 5) (v := undef) rfl (by kernel_rfl) (by kernel_rfl) (by kernel_rfl) (fun _ _ _ h => h) (Or.inr ⟨rfl, rfl⟩) (by assumption) ?_)); simp only [Act.put, List.setIfInBounds_toArray, List.set_cons_zero, List.set_cons_succ]
  (first
    | (refine held_take (i := 6) (v := ?_) rfl (by kernel_rfl) (by kernel_rfl) (by kernel_rfl) (fun _ _ _ h => h) (Or.inl ⟨rfl, ?_⟩) (by assumption) ?_; rotate_left; (intro X hSw; (try dsimp only at hSw); (go_simp <;> with_reducible rfl)))
    | (refine held_take (i := 6) (v := undef) rfl (by kernel_rfl) (by kernel_rfl) (by kernel_rfl) (fun _ _ _ h => h) (Or.inr ⟨rfl, rfl⟩) (by assumption) ?_)); simp only [Act.put, List.setIfInBounds_toArray, List.set_cons_zero, List.set_cons_succ]
  refine wpAnyH_ready (rs := [0]) (by kernel_rfl) (by simp) ?_
  refine AllReadyH.cons rfl (fun K hK => ?_) AllReadyH.nil
  go_simp
  refine (kinds_any _).mono ?_
  rintro e w3 ⟨rfl, hb3⟩
  have HB3 : Hid (Below W0.heap.size W0 w3) := (Below.refl W0.heap.size W0).drew.trans hb3
  clear hb3 hHeld
  refine hK.out _ _ ?_ (fun hHeld => ?_)
  · exact HS.out _ HB3.out
  clear hK K
  have hix := ix7
  have hfx := gx7
  (first
    | (refine held_take (i := 3) (v := ?_) rfl (by kernel_rfl) (by kernel_rfl) (by kernel_rfl) (fun _ _ _ h => h) (Or.inl ⟨rfl, ?_⟩) (by assumption) ?_; rotate_left; (intro X hSw; (try dsimp only at hSw); (go_simp <;> with_reducible rfl)))
    | (refine held_take (i := 3) (v := undef) rfl (by kernel_rfl) (by kernel_rfl) (by kernel_rfl) (fun _ _ _ h => h) (Or.inr ⟨rfl, rfl⟩) (by assumption) ?_)); simp only [Act.put, List.setIfInBounds_toArray, List.set_cons_zero, List.set_cons_succ]
  (first
    | (refine held_take (i := 4) (v := ?_) rfl (by kernel_rfl) (by kernel_rfl) (by kernel_rfl) (fun _ _ _ h => h) (Or.inl ⟨rfl, ?_⟩) (by assumption) ?_; rotate_left; (intro X hSw; (try dsimp only at hSw); (go_simp <;> with_reducible rfl)))
    | (refine held_take (i := 4) (v := undef) rfl (by kernel_rfl) (by kernel_rfl) (by kernel_rfl) (fun _ _ _ h => h) (Or.inr ⟨rfl, rfl⟩) (by assumption) ?_)); simp only [Act.put, List.setIfInBounds_toArray, List.set_cons_zero, List.set_cons_succ]
  refine wpAnyH_ready (rs := [7]) (by kernel_rfl) (by simp) ?_
  refine AllReadyH.cons rfl (fun K hK => ?_) AllReadyH.nil
  go_simp
  refine (fitsAny_any HI.out mn mx ns ms kids A M KA ca ma kc B0 jk jf jt jns jkids jA jK jca jkc B1 w3 HH.out (HV.out.keep HB3.out) HL.out HOK.out (HVJ.out.keep HB3.out) HLJJ.out HOKJ.out).mono ?_
  rintro e w4 ⟨r, rfl, hr, hb⟩
  have HR := Lib.hid hr
  have HB4 := Lib.hid (HBX.out.trans ((HB3.out.trans (hb.mono HB3.out.size)).mono HBX.out.size))
  have HB5 := Lib.hid (HB3.out.trans (hb.mono HB3.out.size))
  clear hr hb hHeld
  refine hK.out _ _ ?_ (fun hHeld => ?_)
  · exact HS.out _ HB5.out
  clear hK K
  (first
    | (refine held_take (i := 8) (v := ?_) rfl (by kernel_rfl) (by kernel_rfl) (by kernel_rfl) (fun _ _ _ h => h) (Or.inl ⟨rfl, ?_⟩) (by assumption) ?_; rotate_left; (intro X hSw; (try dsimp only at hSw); (go_simp <;> with_reducible rfl)))
    | (refine held_take (i := 8) (v := undef) rfl (by kernel_rfl) (by kernel_rfl) (by kernel_rfl) (fun _ _ _ h => h) (Or.inr ⟨rfl, rfl⟩) (by assumption) ?_)); simp only [Act.put, List.setIfInBounds_toArray, List.set_cons_zero, List.set_cons_succ]
  refine wpAnyH_done (by kernel_rfl) ?_ _
  go_wp2
  go_ret
  exact ⟨r, rfl, HR.out.trans HQ.out.symm, HB4.out⟩

theorem gx8 (w : World) : (Instr.field 92 (.agg #[.func (.func 115) #[] #[], .func (.func 116) #[] #[], .func (.func 117) #[] #[], .func (.func 118) #[] #[]]) 1).run Tryz.prog w = .ok (.func (.func 116) #[] #[]) w := by kernel_rfl
set_option maxRecDepth 100000 in
set_option maxHeartbeats 8000000 in
theorem giK8 {n : Nat} (IH : GiS n) (mn mx : Int) (ns : List ByteArray) (ms : List Bool) (kids : List Sc) (A M KA : Option Addr) (ca ma kc B0 : Nat) (jk : Int) (jf : Bool) (jt : ByteArray) (jns : List ByteArray) (jkids : List Js) (jA jK : Option Addr) (jca jkc B1 : Nat) (w : World) (hh : htS kids ≤ n) (hv : ScV w B0 ns ms kids A M KA) (hl : LimS 1048576 (.mk 8 mn mx ns ms kids)) (hok : SokP (.mk 8 mn mx ns ms kids)) (hvj : JsV w B1 jns jkids jA jK) (hlj : LimJ 1048576 (.mk jk jf jt jns jkids)) (hokj : JokP (.mk jk jf jt jns jkids)) :
    Calls Tryz.prog 49 #[.agg #[.int .i64 8, .int .i64 mn, .int .i64 mx, .slice A ns.length ca, .slice M ms.length ma, .slice KA kids.length kc], .agg #[.int .i64 jk, .bool jf, .string jt, .slice jA jns.length jca, .slice jK jkids.length jkc]] w (BoolPost (FitD (n + 1) (.mk 8 mn mx ns ms kids) (.mk jk jf jt jns jkids)) w) := by
  rw [show FitD (n + 1) (.mk 8 mn mx ns ms kids) (.mk jk jf jt jns jkids) = (jk = 4 ∧ jt ∈ ns) from propext fitD8]
  obtain ⟨Q, hQ⟩ : ∃ Q : Prop, Q ↔ (jk = 4 ∧ jt ∈ ns) := ⟨_, Iff.rfl⟩
  rw [show (jk = 4 ∧ jt ∈ ns) = Q from (propext hQ).symm]
  have HQ := Lib.hid hQ
  obtain ⟨W0, hW0⟩ : ∃ W0, (w.alloc (.cells #[.int .i64 8, .int .i64 mn, .int .i64 mx, .slice A ns.length ca, .slice M ms.length ma, .slice KA kids.length kc] 31)).alloc (.cells #[.int .i64 jk, .bool jf, .string jt, .slice jA jns.length jca, .slice jK jkids.length jkc] 42) = W0 := ⟨_, rfl⟩
  have HBX : Hid (Below w.heap.size w W0) := by rw [← hW0]; exact (below_box _).alloc (by simp) _
  have HOS : Hid (Own W0 w.heap.size 31 (c6 8 mn mx A ns.length ca M ms.length ma KA kids.length kc)) := by rw [← hW0]; exact (Own.new w 31 #[.int .i64 8, .int .i64 mn, .int .i64 mx, .slice A ns.length ca, .slice M ms.length ma, .slice KA kids.length kc]).alloc _
  have HOJ : Hid (Own W0 (w.heap.size + 1) 42 (c5 jk jf jt jA jns.length jca jK jkids.length jkc)) := by
    rw [← hW0]
    have := Own.new (w.alloc (.cells #[.int .i64 8, .int .i64 mn, .int .i64 mx, .slice A ns.length ca, .slice M ms.length ma, .slice KA kids.length kc] 31)) 42 #[.int .i64 jk, .bool jf, .string jt, .slice jA jns.length jca, .slice jK jkids.length jkc]
    rw [World.size_alloc] at this
    exact this
  have HV := Lib.hid (hv.keep HBX.out)
  have HVJ := Lib.hid (hvj.keep HBX.out)
  have HI := Lib.hid IH
  have HH := Lib.hid hh
  have HOK := Lib.hid hok
  have HOKJ := Lib.hid hokj
  have HLJJ := Lib.hid hlj
  have HLL := Lib.hid hl
  cases hl with
  | mk _ _ _ _ _ _ l2 l3 lm l4 l5 lb =>
  cases hlj with
  | mk _ _ _ _ _ m1 m2 m3 m4 m5 =>
  have HL5 := Lib.hid l5
  have HM5 := Lib.hid m5
  have HW := Lib.hid hW0
  clear hQ hW0 hv hvj IH hh hok hokj l3 l5 lb m3 m5
  have HL : Hid (LimS 1048576 (.mk 8 mn mx ns ms kids)) := HLL
  go_enter Tryz.func49, Tryz.ntmps49
  go_upto_region 1 with fail
  rw [HW.out]
  clear HW
  have HS : Hid (∀ X, Below W0.heap.size W0 X → (fun X => X.cell? ⟨w.heap.size, 0, none⟩ = some (.int .i64 8) ∧ X.cell? ⟨w.heap.size, 1, none⟩ = some (.int .i64 mn) ∧ X.cell? ⟨w.heap.size, 2, none⟩ = some (.int .i64 mx) ∧ X.cell? ⟨w.heap.size, 3, none⟩ = some (.slice A ns.length ca) ∧ X.cell? ⟨w.heap.size, 4, none⟩ = some (.slice M ms.length ma) ∧ X.cell? ⟨w.heap.size, 5, none⟩ = some (.slice KA kids.length kc) ∧ X.cell? ⟨w.heap.size + 1, 0, none⟩ = some (.int .i64 jk) ∧ X.cell? ⟨w.heap.size + 1, 1, none⟩ = some (.bool jf) ∧ X.cell? ⟨w.heap.size + 1, 2, none⟩ = some (.string jt) ∧ X.cell? ⟨w.heap.size + 1, 3, none⟩ = some (.slice jA jns.length jca) ∧ X.cell? ⟨w.heap.size + 1, 4, none⟩ = some (.slice jK jkids.length jkc)) X) := fun X h => ⟨cell_keep h (c6_get HOS.out).1, cell_keep h (c6_get HOS.out).2.1, cell_keep h (c6_get HOS.out).2.2.1, cell_keep h (c6_get HOS.out).2.2.2.1, cell_keep h (c6_get HOS.out).2.2.2.2.1, cell_keep h (c6_get HOS.out).2.2.2.2.2, cell_keep h (c5_get HOJ.out).1, cell_keep h (c5_get HOJ.out).2.1, cell_keep h (c5_get HOJ.out).2.2.1, cell_keep h (c5_get HOJ.out).2.2.2.1, cell_keep h (c5_get HOJ.out).2.2.2.2⟩
  refine wp_region_held_drew (S := (fun X => X.cell? ⟨w.heap.size, 0, none⟩ = some (.int .i64 8) ∧ X.cell? ⟨w.heap.size, 1, none⟩ = some (.int .i64 mn) ∧ X.cell? ⟨w.heap.size, 2, none⟩ = some (.int .i64 mx) ∧ X.cell? ⟨w.heap.size, 3, none⟩ = some (.slice A ns.length ca) ∧ X.cell? ⟨w.heap.size, 4, none⟩ = some (.slice M ms.length ma) ∧ X.cell? ⟨w.heap.size, 5, none⟩ = some (.slice KA kids.length kc) ∧ X.cell? ⟨w.heap.size + 1, 0, none⟩ = some (.int .i64 jk) ∧ X.cell? ⟨w.heap.size + 1, 1, none⟩ = some (.bool jf) ∧ X.cell? ⟨w.heap.size + 1, 2, none⟩ = some (.string jt) ∧ X.cell? ⟨w.heap.size + 1, 3, none⟩ = some (.slice jA jns.length jca) ∧ X.cell? ⟨w.heap.size + 1, 4, none⟩ = some (.slice jK jkids.length jkc))) (by kernel_rfl) ?_ (fun hHeld => ?_)
  · exact HS.out _ (Below.refl _ _).drew
  (first
    | (refine held_take (i := 1) (v := ?_) rfl (by kernel_rfl) (by kernel_rfl) (by kernel_rfl) (fun _ _ _ h => h) (Or.inl ⟨rfl, ?_⟩) (by assumption) ?_; rotate_left; (intro X hSw; (try dsimp only at hSw); (go_simp <;> with_reducible rfl)))
    | (refine held_take (i := 1) (v := undef) rfl (by kernel_rfl) (by kernel_rfl) (by kernel_rfl) (fun _ _ _ h => h) (Or.inr ⟨rfl, rfl⟩) (by assumption) ?_)); simp only [Act.put, List.setIfInBounds_toArray, List.set_cons_zero, List.set_cons_succ]
  (first
    | (refine held_take (i := 2) (v := ?_) rfl (by kernel_rfl) (by kernel_rfl) (by kernel_rfl) (fun _ _ _ h => h) (Or.inl ⟨rfl, ?_⟩) (by assumption) ?_; rotate_left; (intro X hSw; (try dsimp only at hSw); (go_simp <;> with_reducible rfl)))
    | (refine held_take (i := 2) (v := undef) rfl (by kernel_rfl) (by kernel_rfl) (by kernel_rfl) (fun _ _ _ h => h) (Or.inr ⟨rfl, rfl⟩) (by assumption) ?_)); simp only [Act.put, List.setIfInBounds_toArray, List.set_cons_zero, List.set_cons_succ]
  (first
    | (refine held_take (i := 5) (v := ?_) rfl (by kernel_rfl) (by kernel_rfl) (by kernel_rfl) (fun _ _ _ h => h) (Or.inl ⟨rfl, ?_⟩) (by assumption) ?_; rotate_left; (intro X hSw; (try dsimp only at hSw); (go_simp <;> with_reducible rfl)))
    | (refine held_take (i := 5) (v := undef) rfl (by kernel_rfl) (by kernel_rfl) (by kernel_rfl) (fun _ _ _ h => h) (Or.inr ⟨rfl, rfl⟩) (by assumption) ?_)); simp only [Act.put, List.setIfInBounds_toArray, List.set_cons_zero, List.set_cons_succ]
  (first
    | (refine held_take (i := 6) (v := ?_) rfl (by kernel_rfl) (by kernel_rfl) (by kernel_rfl) (fun _ _ _ h => h) (Or.inl ⟨rfl, ?_⟩) (by assumption) ?_; rotate_left; (intro X hSw; (try dsimp only at hSw); (go_simp <;> with_reducible rfl)))
    | (refine held_take (i := 6) (v := undef) rfl (by kernel_rfl) (by kernel_rfl) (by kernel_rfl) (fun _ _ _ h => h) (Or.inr ⟨rfl, rfl⟩) (by assumption) ?_)); simp only [Act.put, List.setIfInBounds_toArray, List.set_cons_zero, List.set_cons_succ]
  refine wpAnyH_ready (rs := [0]) (by kernel_rfl) (by simp) ?_
  refine AllReadyH.cons rfl (fun K hK => ?_) AllReadyH.nil
  go_simp
  refine (kinds_any _).mono ?_
  rintro e w3 ⟨rfl, hb3⟩
  have HB3 : Hid (Below W0.heap.size W0 w3) := (Below.refl W0.heap.size W0).drew.trans hb3
  clear hb3 hHeld
  refine hK.out _ _ ?_ (fun hHeld => ?_)
  · exact HS.out _ HB3.out
  clear hK K
  have hix := ix8
  have hfx := gx8
  (first
    | (refine held_take (i := 3) (v := ?_) rfl (by kernel_rfl) (by kernel_rfl) (by kernel_rfl) (fun _ _ _ h => h) (Or.inl ⟨rfl, ?_⟩) (by assumption) ?_; rotate_left; (intro X hSw; (try dsimp only at hSw); (go_simp <;> with_reducible rfl)))
    | (refine held_take (i := 3) (v := undef) rfl (by kernel_rfl) (by kernel_rfl) (by kernel_rfl) (fun _ _ _ h => h) (Or.inr ⟨rfl, rfl⟩) (by assumption) ?_)); simp only [Act.put, List.setIfInBounds_toArray, List.set_cons_zero, List.set_cons_succ]
  (first
    | (refine held_take (i := 4) (v := ?_) rfl (by kernel_rfl) (by kernel_rfl) (by kernel_rfl) (fun _ _ _ h => h) (Or.inl ⟨rfl, ?_⟩) (by assumption) ?_; rotate_left; (intro X hSw; (try dsimp only at hSw); (go_simp <;> with_reducible rfl)))
    | (refine held_take (i := 4) (v := undef) rfl (by kernel_rfl) (by kernel_rfl) (by kernel_rfl) (fun _ _ _ h => h) (Or.inr ⟨rfl, rfl⟩) (by assumption) ?_)); simp only [Act.put, List.setIfInBounds_toArray, List.set_cons_zero, List.set_cons_succ]
  refine wpAnyH_ready (rs := [7]) (by kernel_rfl) (by simp) ?_
  refine AllReadyH.cons rfl (fun K hK => ?_) AllReadyH.nil
  go_simp
  refine (fitsOne_any mn mx ns ms kids A M KA ca ma kc B0 jk jf jt jns jkids jA jK jca jkc B1 w3 (HV.out.keep HB3.out) HL.out HOK.out (HVJ.out.keep HB3.out) HLJJ.out HOKJ.out).mono ?_
  rintro e w4 ⟨r, rfl, hr, hb⟩
  have HR := Lib.hid hr
  have HB4 := Lib.hid (HBX.out.trans ((HB3.out.trans (hb.mono HB3.out.size)).mono HBX.out.size))
  have HB5 := Lib.hid (HB3.out.trans (hb.mono HB3.out.size))
  clear hr hb hHeld
  refine hK.out _ _ ?_ (fun hHeld => ?_)
  · exact HS.out _ HB5.out
  clear hK K
  (first
    | (refine held_take (i := 8) (v := ?_) rfl (by kernel_rfl) (by kernel_rfl) (by kernel_rfl) (fun _ _ _ h => h) (Or.inl ⟨rfl, ?_⟩) (by assumption) ?_; rotate_left; (intro X hSw; (try dsimp only at hSw); (go_simp <;> with_reducible rfl)))
    | (refine held_take (i := 8) (v := undef) rfl (by kernel_rfl) (by kernel_rfl) (by kernel_rfl) (fun _ _ _ h => h) (Or.inr ⟨rfl, rfl⟩) (by assumption) ?_)); simp only [Act.put, List.setIfInBounds_toArray, List.set_cons_zero, List.set_cons_succ]
  refine wpAnyH_done (by kernel_rfl) ?_ _
  go_wp2
  go_ret
  exact ⟨r, rfl, HR.out.trans HQ.out.symm, HB4.out⟩

theorem giStep {n : Nat} (IH : GiS n) : GiS (n + 1) := by
  intro k mn mx ns ms kids A M KA ca ma kc B0 jk jf jt jns jkids jA jK jca jkc B1 w hh hv hl hok hvj hlj hokj
  by_cases k1 : k = 1
  · subst k1; exact giK1 IH mn mx ns ms kids A M KA ca ma kc B0 jk jf jt jns jkids jA jK jca jkc B1 w (by omega) hv hl hok hvj hlj hokj
  by_cases k2 : k = 2
  · subst k2; exact giK2 IH mn mx ns ms kids A M KA ca ma kc B0 jk jf jt jns jkids jA jK jca jkc B1 w (by omega) hv hl hok hvj hlj hokj
  by_cases k3 : k = 3
  · subst k3; exact giK3 IH mn mx ns ms kids A M KA ca ma kc B0 jk jf jt jns jkids jA jK jca jkc B1 w (by omega) hv hl hok hvj hlj hokj
  by_cases k4 : k = 4
  · subst k4; exact giK4 IH mn mx ns ms kids A M KA ca ma kc B0 jk jf jt jns jkids jA jK jca jkc B1 w (by omega) hv hl hok hvj hlj hokj
  by_cases k5 : k = 5
  · subst k5; exact giK5 IH mn mx ns ms kids A M KA ca ma kc B0 jk jf jt jns jkids jA jK jca jkc B1 w (by omega) hv hl hok hvj hlj hokj
  by_cases k6 : k = 6
  · subst k6; exact giK6 IH mn mx ns ms kids A M KA ca ma kc B0 jk jf jt jns jkids jA jK jca jkc B1 w (by omega) hv hl hok hvj hlj hokj
  by_cases k7 : k = 7
  · subst k7; exact giK7 IH mn mx ns ms kids A M KA ca ma kc B0 jk jf jt jns jkids jA jK jca jkc B1 w (by omega) hv hl hok hvj hlj hokj
  by_cases k8 : k = 8
  · subst k8; exact giK8 IH mn mx ns ms kids A M KA ca ma kc B0 jk jf jt jns jkids jA jK jca jkc B1 w (by omega) hv hl hok hvj hlj hokj
  have h := hok.one
  unfold SoneP at h
  exfalso
  rcases h with h | h | h | h | h | h <;> omega
theorem gi_all : ∀ n, GiS n
  | 0 => by intro k mn mx ns ms kids A M KA ca ma kc B0 jk jf jt jns jkids jA jK jca jkc B1 w hh; omega
  | n + 1 => giStep (gi_all n)

end Go.Proofs.YtkhcappjhefkjaaGreatDoor

