/- The program's methods fitsAny, fitsList. (written by gen_e2.py) -/
import Derived.Test.YtkhcappjhefkjaaGreatDoorE1
namespace Go.Proofs.YtkhcappjhefkjaaGreatDoor
open Go.RowKit
set_option linter.unusedVariables false

def NotPost (P : Prop) (w : World) (e : Ending) (w' : World) : Prop := ∃ r : Bool, e = .returned (.bool (!r)) ∧ (r = true ↔ P) ∧ Below w.heap.size w w'

set_option maxRecDepth 100000 in
set_option maxHeartbeats 4000000 in
theorem anyClos {n : Nat} (IH : GiS n) (pk pmn pmx : Int) (pns : List ByteArray) (pms : List Bool) (pkids : List Sc) (PA PM PK : Option Addr) (pa pm pc B0 : Nat) (qk : Int) (qf : Bool) (qt : ByteArray) (qns : List ByteArray) (qkids : List Js) (QA QK : Option Addr) (qa qc B1 : Nat) (J : Nat) (w : World) (hh : htS pkids + 1 ≤ n) (hv : ScV w B0 pns pms pkids PA PM PK) (hl : LimS 1048576 (.mk pk pmn pmx pns pms pkids)) (hok : SokP (.mk pk pmn pmx pns pms pkids)) (hvj : JsV w B1 qns qkids QA QK) (hlj : LimJ 1048576 (.mk qk qf qt qns qkids)) (hokj : JokP (.mk qk qf qt qns qkids)) (hJ : Own w J 42 (c5 qk qf qt QA qns.length qa QK qkids.length qc)) :
    Calls Tryz.prog 142 #[.agg #[.int .i64 pk, .int .i64 pmn, .int .i64 pmx, .slice PA pns.length pa, .slice PM pms.length pm, .slice PK pkids.length pc], .pointer (some ⟨J, 0, none⟩)] w (BoolPost (FitD n (.mk pk pmn pmx pns pms pkids) (.mk qk qf qt qns qkids)) w) := by
  obtain ⟨W0, hW0⟩ : ∃ W0, w.alloc (.cells #[.int .i64 pk, .int .i64 pmn, .int .i64 pmx, .slice PA pns.length pa, .slice PM pms.length pm, .slice PK pkids.length pc] 31) = W0 := ⟨_, rfl⟩
  have HBX : Hid (Below w.heap.size w W0) := by rw [← hW0]; exact below_box _
  have HOS : Hid (Own W0 w.heap.size 31 (c6 pk pmn pmx PA pns.length pa PM pms.length pm PK pkids.length pc)) := by rw [← hW0]; exact Own.new w 31 #[.int .i64 pk, .int .i64 pmn, .int .i64 pmx, .slice PA pns.length pa, .slice PM pms.length pm, .slice PK pkids.length pc]
  have HOJ := Lib.hid (hJ.keep HBX.out)
  have HC := Lib.hid (IH pk pmn pmx pns pms pkids PA PM PK pa pm pc B0 qk qf qt qns qkids QA QK qa qc B1 W0 hh (hv.keep HBX.out) hl hok (hvj.keep HBX.out) hlj hokj)
  have HW := Lib.hid hW0
  clear hW0 hh hv hl hok hvj hlj hokj hJ IH
  obtain ⟨p0, p1, p2, p3, p4, p5⟩ := c6_get HOS.out
  obtain ⟨q0, q1, q2, q3, q4⟩ := c5_get HOJ.out
  have pl := HOS.out.lt
  have ql := HOJ.out.lt
  go_enter Tryz.func142, Tryz.ntmps142
  go_upto_region 1 with fail
  rw [HW.out]
  clear HW
  go_wp2_with fail
  refine HC.out.mono ?_
  rintro e w2 ⟨r, rfl, hr, hb⟩
  have HR := Lib.hid hr
  have HB := Lib.hid (HBX.out.trans (hb.mono HBX.out.size))
  clear hr hb p0 p1 p2 p3 p4 p5 q0 q1 q2 q3 q4 pl ql
  go_wp2
  go_ret
  exact ⟨r, rfl, HR.out, HB.out⟩

set_option maxRecDepth 100000 in
set_option maxHeartbeats 4000000 in
theorem kidsAny {n : Nat} (IH : GiS n) (kids : List Sc) (KA : Option Addr) (kc B0 : Nat) (qk : Int) (qf : Bool) (qt : ByteArray) (qns : List ByteArray) (qkids : List Js) (QA QK : Option Addr) (qa qc B1 : Nat) (J : Nat) (w : World) (hh : htS kids ≤ n) (hk : Scs w B0 KA kids) (hm : kids.length ≤ 1048576) (hl : ∀ p ∈ kids, LimS 1048576 p) (hok : ∀ p ∈ kids, SokP p) (hvj : JsV w B1 qns qkids QA QK) (hlj : LimJ 1048576 (.mk qk qf qt qns qkids)) (hokj : JokP (.mk qk qf qt qns qkids)) (hJ : Own w J 42 (c5 qk qf qt QA qns.length qa QK qkids.length qc)) :
    Calls Tryz.prog 74 #[.slice KA kids.length kc, .func (.func 142) #[] #[.pointer (some ⟨J, 0, none⟩)]] w (fun e w' => ∃ r : Int, e = .returned (.int .i64 r) ∧ (0 ≤ r ↔ ∃ s ∈ kids, FitD n s (.mk qk qf qt qns qkids)) ∧ Below w.heap.size w w') := by
  have HK := Lib.hid hk
  have HL := Lib.hid hl
  have HOK := Lib.hid hok
  have HH := Lib.hid hh
  have HVJ := Lib.hid hvj
  have HLJ := Lib.hid hlj
  have HOKJ := Lib.hid hokj
  have HOJ := Lib.hid hJ
  have HI := Lib.hid IH
  clear hk hl hok hh hvj hlj hokj hJ IH
  go_enter Tryz.func74, Tryz.ntmps74
  go_wp2
  go_loopw [9] (fun i wr => ∃ j : Nat, j ≤ kids.length ∧ i = .int .i64 j ∧ Hid (∀ u (h : u < kids.length), u < j → ¬ FitD n kids[u] (.mk qk qf qt qns qkids)) ∧ Hid (Below w.heap.size w wr)) (fun i _ => kids.length - (intOf i).toNat)
  case atStart => exact ⟨0, Nat.zero_le _, rfl, fun u _ hu => by omega, Below.refl _ _⟩
  case round =>
    obtain ⟨j, hj, rfl, HU, HB⟩ := hrel
    by_cases hlt : j < kids.length
    · have hlt' : (j : Int) < (kids.length : Int) := by omega
      obtain ⟨b, off, rfl, hp⟩ := (HK.out.keep HB.out).at_ hlt
      have hm1 := List.getElem_mem hlt
      have hlim := HL.out _ hm1
      have hht := htS_mem hm1
      have ho1 := HOK.out _ hm1
      have HU2 : Hid (¬ FitD n kids[j] (.mk qk qf qt qns qkids) → ∀ u (h : u < kids.length), u < j + 1 → ¬ FitD n kids[u] (.mk qk qf qt qns qkids)) := fun h1 u hu huj => by
        rcases Nat.lt_succ_iff_lt_or_eq.1 huj with h3 | h3
        · exact HU.out u hu h3
        · subst h3; exact h1
      have HYES : Hid (FitD n kids[j] (.mk qk qf qt qns qkids) → ∃ s ∈ kids, FitD n s (.mk qk qf qt qns qkids)) := fun h => ⟨_, hm1, h⟩
      clear hm1
      generalize kids[j] = p at *
      obtain ⟨pk, pmn, pmx, pns, pms, pkids⟩ := p
      rw [htS_mk] at hht
      obtain ⟨PA, PM, PK, pa, pm, pc, hc, hvp⟩ := hp.open_
      obtain ⟨c0, c1, c2, c3, c4, c5, cle⟩ := hc
      have hbx : Below wr.heap.size wr (wr.alloc (.cells #[.int .i64 pk, .int .i64 pmn, .int .i64 pmx, .slice PA pns.length pa, .slice PM pms.length pm, .slice PK pkids.length pc] 31)) := below_box _
      have HCL := Lib.hid (anyClos HI.out pk pmn pmx pns pms pkids PA PM PK pa pm pc B0 qk qf qt qns qkids QA QK qa qc B1 J (wr.alloc (.cells #[.int .i64 pk, .int .i64 pmn, .int .i64 pmx, .slice PA pns.length pa, .slice PM pms.length pm, .slice PK pkids.length pc] 31)) (by have := HH.out; omega) (hvp.keep hbx) hlim ho1 ((HVJ.out.keep HB.out).keep hbx) HLJ.out HOKJ.out ((HOJ.out.keep HB.out).keep hbx))
      have HB1 := Lib.hid (HB.out.trans (hbx.mono HB.out.size))
      clear hp hvp hlim hht ho1 cle hbx
      go_wp2_with fail
      refine HCL.out.mono ?_
      rintro e w2 ⟨r, rfl, hr, hb⟩
      have HR := Lib.hid hr
      have HB2 := Lib.hid (HB1.out.trans (hb.mono HB1.out.size))
      clear hr hb HCL HB1 c0 c1 c2 c3 c4 c5
      cases r
      · have HU3 := Lib.hid (HU2.out (fun h => by have := HR.out.2 h; cases this))
        clear HU HU2 HYES HR
        go_wp2
        go_roundw
        case rel => exact ⟨j + 1, by omega, by go_num, HU3, HB2⟩
        case measure => simp [intOf]; omega
      · have HT : Hid (∃ s ∈ kids, FitD n s (.mk qk qf qt qns qkids)) := HYES.out (by first | exact HR.out.1 rfl | exact HR.out.1 trivial)
        go_wp2
        go_ret
        exact ⟨j, rfl, ⟨fun _ => HT.out, fun _ => by omega⟩, HB2.out⟩
    · have hlt' : ¬ (j : Int) < (kids.length : Int) := by omega
      have HF : Hid (¬ ∃ s ∈ kids, FitD n s (.mk qk qf qt qns qkids)) := fun h => by
        obtain ⟨s, hs, hf⟩ := h
        obtain ⟨u, hu, rfl⟩ := List.getElem_of_mem hs
        exact HU.out u hu (by omega) hf
      go_wp2
      go_ret
      exact ⟨-1, rfl, ⟨fun h => by omega, fun h => absurd h HF.out⟩, HB.out⟩

set_option maxRecDepth 100000 in
set_option maxHeartbeats 8000000 in
theorem fitsAny_any {n : Nat} (IH : GiS n) (mn mx : Int) (ns : List ByteArray) (ms : List Bool) (kids : List Sc) (A M KA : Option Addr) (ca ma kc B0 : Nat) (jk : Int) (jf : Bool) (jt : ByteArray) (jns : List ByteArray) (jkids : List Js) (jA jK : Option Addr) (jca jkc B1 : Nat) (w : World) (hh : htS kids ≤ n) (hv : ScV w B0 ns ms kids A M KA) (hl : LimS 1048576 (.mk 7 mn mx ns ms kids)) (hok : SokP (.mk 7 mn mx ns ms kids)) (hvj : JsV w B1 jns jkids jA jK) (hlj : LimJ 1048576 (.mk jk jf jt jns jkids)) (hokj : JokP (.mk jk jf jt jns jkids)) :
    Calls Tryz.prog 112 #[.agg #[.int .i64 7, .int .i64 mn, .int .i64 mx, .slice A ns.length ca, .slice M ms.length ma, .slice KA kids.length kc], .agg #[.int .i64 jk, .bool jf, .string jt, .slice jA jns.length jca, .slice jK jkids.length jkc]] w (BoolPost (∃ s ∈ kids, FitD n s (.mk jk jf jt jns jkids)) w) := by
  obtain ⟨Q, hQ⟩ : ∃ Q : Prop, Q ↔ (∃ s ∈ kids, FitD n s (.mk jk jf jt jns jkids)) := ⟨_, Iff.rfl⟩
  rw [show (∃ s ∈ kids, FitD n s (.mk jk jf jt jns jkids)) = Q from (propext hQ).symm]
  have HQ := Lib.hid hQ
  obtain ⟨W0, hW0⟩ : ∃ W0, (w.alloc (.cells #[.int .i64 7, .int .i64 mn, .int .i64 mx, .slice A ns.length ca, .slice M ms.length ma, .slice KA kids.length kc] 31)).alloc (.cells #[.int .i64 jk, .bool jf, .string jt, .slice jA jns.length jca, .slice jK jkids.length jkc] 42) = W0 := ⟨_, rfl⟩
  have HBX : Hid (Below w.heap.size w W0) := by rw [← hW0]; exact (below_box _).alloc (by simp) _
  have HOS : Hid (Own W0 w.heap.size 31 (c6 7 mn mx A ns.length ca M ms.length ma KA kids.length kc)) := by rw [← hW0]; exact (Own.new w 31 #[.int .i64 7, .int .i64 mn, .int .i64 mx, .slice A ns.length ca, .slice M ms.length ma, .slice KA kids.length kc]).alloc _
  have HOJ : Hid (Own W0 (w.heap.size + 1) 42 (c5 jk jf jt jA jns.length jca jK jkids.length jkc)) := by
    rw [← hW0]
    have := Own.new (w.alloc (.cells #[.int .i64 7, .int .i64 mn, .int .i64 mx, .slice A ns.length ca, .slice M ms.length ma, .slice KA kids.length kc] 31)) 42 #[.int .i64 jk, .bool jf, .string jt, .slice jA jns.length jca, .slice jK jkids.length jkc]
    rw [World.size_alloc] at this
    exact this
  have HV := Lib.hid (hv.keep HBX.out)
  have HVJ := Lib.hid (hvj.keep HBX.out)
  have HI := Lib.hid IH
  have HH := Lib.hid hh
  have HOK := Lib.hid hok
  have HOKJ := Lib.hid hokj
  have HLJJ := Lib.hid hlj
  cases hl with
  | mk _ _ _ _ _ _ l2 l3 lm l4 l5 lb =>
  cases hlj with
  | mk _ _ _ _ _ m1 m2 m3 m4 m5 =>
  have HL5 := Lib.hid l5
  have HM5 := Lib.hid m5
  have HW := Lib.hid hW0
  clear hQ hW0 hv hvj IH hh hok hokj l3 l5 lb m3 m5
  obtain ⟨p0, p1, p2, p3, p4, p5⟩ := c6_get HOS.out
  obtain ⟨q0, q1, q2, q3, q4⟩ := c5_get HOJ.out
  have pl := HOS.out.lt
  have ql := HOJ.out.lt
  go_enter Tryz.func112, Tryz.ntmps112
  go_upto_region 1 with fail
  rw [HW.out]
  clear HW
  have HKF := Lib.hid (kidsAny HI.out kids KA kc B0 jk jf jt jns jkids jA jK jca jkc B1 (w.heap.size + 1) W0 HH.out HV.out.k l4 HL5.out HOK.out.kids HVJ.out HLJJ.out HOKJ.out HOJ.out)
  go_wp2_with fail
  refine HKF.out.mono ?_
  rintro e w2 ⟨r, rfl, hr, hb⟩
  have HR := Lib.hid hr
  have HB := Lib.hid (HBX.out.trans (hb.mono HBX.out.size))
  clear hr hb p0 p1 p2 p3 p4 p5 q0 q1 q2 q3 q4 pl ql HKF
  go_wp2
  go_ret
  refine ⟨_, rfl, ?_, HB.out⟩
  rw [HQ.out, ← HR.out, decide_eq_true_eq]

set_option maxRecDepth 100000 in
set_option maxHeartbeats 4000000 in
theorem listClos {n : Nat} (IH : GiS n) (pk pmn pmx : Int) (pns : List ByteArray) (pms : List Bool) (pkids : List Sc) (PA PM PK : Option Addr) (pa pm pc B0 : Nat) (qk : Int) (qf : Bool) (qt : ByteArray) (qns : List ByteArray) (qkids : List Js) (QA QK : Option Addr) (qa qc B1 : Nat) (S b6 off6 kc : Nat) (w : World) (hh : htS pkids + 1 ≤ n) (hv : ScV w B0 pns pms pkids PA PM PK) (hl : LimS 1048576 (.mk pk pmn pmx pns pms pkids)) (hok : SokP (.mk pk pmn pmx pns pms pkids)) (hvj : JsV w B1 qns qkids QA QK) (hlj : LimJ 1048576 (.mk qk qf qt qns qkids)) (hokj : JokP (.mk qk qf qt qns qkids))
    (s5 : w.cell? ⟨S, 5, none⟩ = some (.slice (some ⟨b6, off6, none⟩) 1 kc)) (hc : ScCells w b6 off6 pk pmn pmx pns pms pkids PA PM PK pa pm pc) :
    Calls Tryz.prog 136 #[.agg #[.int .i64 qk, .bool qf, .string qt, .slice QA qns.length qa, .slice QK qkids.length qc], .pointer (some ⟨S, 0, none⟩)] w (NotPost (FitD n (.mk pk pmn pmx pns pms pkids) (.mk qk qf qt qns qkids)) w) := by
  obtain ⟨W0, hW0⟩ : ∃ W0, w.alloc (.cells #[.int .i64 qk, .bool qf, .string qt, .slice QA qns.length qa, .slice QK qkids.length qc] 42) = W0 := ⟨_, rfl⟩
  have hbx : Below w.heap.size w W0 := by rw [← hW0]; exact below_box _
  have HOJ : Hid (Own W0 w.heap.size 42 (c5 qk qf qt QA qns.length qa QK qkids.length qc)) := by rw [← hW0]; exact Own.new w 42 #[.int .i64 qk, .bool qf, .string qt, .slice QA qns.length qa, .slice QK qkids.length qc]
  obtain ⟨c0, c1, c2, c3, c4, c5, cle⟩ := hc
  replace s5 := cell_keep hbx s5
  replace c0 := cell_keep hbx c0
  replace c1 := cell_keep hbx c1
  replace c2 := cell_keep hbx c2
  replace c3 := cell_keep hbx c3
  replace c4 := cell_keep hbx c4
  replace c5 := cell_keep hbx c5
  have HBX := Lib.hid hbx
  have HC : Hid (∀ W, Below W0.heap.size W0 W → Calls Tryz.prog 49 #[.agg #[.int .i64 pk, .int .i64 pmn, .int .i64 pmx, .slice PA pns.length pa, .slice PM pms.length pm, .slice PK pkids.length pc], .agg #[.int .i64 qk, .bool qf, .string qt, .slice QA qns.length qa, .slice QK qkids.length qc]] W (BoolPost (FitD n (.mk pk pmn pmx pns pms pkids) (.mk qk qf qt qns qkids)) W)) := fun W hb =>
    IH pk pmn pmx pns pms pkids PA PM PK pa pm pc B0 qk qf qt qns qkids QA QK qa qc B1 W hh ((hv.keep HBX.out).keep hb) hl hok ((hvj.keep HBX.out).keep hb) hlj hokj
  have HW := Lib.hid hW0
  clear hW0 hh hv hl hok hvj hlj hokj IH cle hbx
  obtain ⟨q0, q1, q2, q3, q4⟩ := c5_get HOJ.out
  have ql := HOJ.out.lt
  have HS : Hid (∀ X, Below W0.heap.size W0 X → (fun X => X.cell? ⟨S, 5, none⟩ = some (.slice (some ⟨b6, off6, none⟩) 1 kc) ∧ X.cell? ⟨b6, off6, none⟩ = some (.int .i64 pk) ∧ X.cell? ⟨b6, off6 + 1, none⟩ = some (.int .i64 pmn) ∧ X.cell? ⟨b6, off6 + 2, none⟩ = some (.int .i64 pmx) ∧ X.cell? ⟨b6, off6 + 3, none⟩ = some (.slice PA pns.length pa) ∧ X.cell? ⟨b6, off6 + 4, none⟩ = some (.slice PM pms.length pm) ∧ X.cell? ⟨b6, off6 + 5, none⟩ = some (.slice PK pkids.length pc) ∧ X.cell? ⟨w.heap.size, 0, none⟩ = some (.int .i64 qk) ∧ X.cell? ⟨w.heap.size, 1, none⟩ = some (.bool qf) ∧ X.cell? ⟨w.heap.size, 2, none⟩ = some (.string qt) ∧ X.cell? ⟨w.heap.size, 3, none⟩ = some (.slice QA qns.length qa) ∧ X.cell? ⟨w.heap.size, 4, none⟩ = some (.slice QK qkids.length qc)) X) := fun X h => ⟨cell_keep h s5, cell_keep h c0, cell_keep h c1, cell_keep h c2, cell_keep h c3, cell_keep h c4, cell_keep h c5, cell_keep h q0, cell_keep h q1, cell_keep h q2, cell_keep h q3, cell_keep h q4⟩
  clear q0 q1 q2 q3 q4 c0 c1 c2 c3 c4 c5 s5
  go_enter Tryz.func136, Tryz.ntmps136
  go_upto_region 1 with fail
  rw [HW.out]
  clear HW
  refine wp_region_held_drew (S := (fun X => X.cell? ⟨S, 5, none⟩ = some (.slice (some ⟨b6, off6, none⟩) 1 kc) ∧ X.cell? ⟨b6, off6, none⟩ = some (.int .i64 pk) ∧ X.cell? ⟨b6, off6 + 1, none⟩ = some (.int .i64 pmn) ∧ X.cell? ⟨b6, off6 + 2, none⟩ = some (.int .i64 pmx) ∧ X.cell? ⟨b6, off6 + 3, none⟩ = some (.slice PA pns.length pa) ∧ X.cell? ⟨b6, off6 + 4, none⟩ = some (.slice PM pms.length pm) ∧ X.cell? ⟨b6, off6 + 5, none⟩ = some (.slice PK pkids.length pc) ∧ X.cell? ⟨w.heap.size, 0, none⟩ = some (.int .i64 qk) ∧ X.cell? ⟨w.heap.size, 1, none⟩ = some (.bool qf) ∧ X.cell? ⟨w.heap.size, 2, none⟩ = some (.string qt) ∧ X.cell? ⟨w.heap.size, 3, none⟩ = some (.slice QA qns.length qa) ∧ X.cell? ⟨w.heap.size, 4, none⟩ = some (.slice QK qkids.length qc))) (by kernel_rfl) ?_ (fun hHeld => ?_)
  · exact HS.out _ (Below.refl _ _).drew
  (first
    | (refine held_take (i := 0) (v := ?_) rfl (by kernel_rfl) (by kernel_rfl) (by kernel_rfl) (fun _ _ _ h => h) (Or.inl ⟨rfl, ?_⟩) (by assumption) ?_; rotate_left; (intro X hSw; (try dsimp only at hSw); (go_simp <;> with_reducible rfl)))
    | (refine held_take (i := 0) (v := undef) rfl (by kernel_rfl) (by kernel_rfl) (by kernel_rfl) (fun _ _ _ h => h) (Or.inr ⟨rfl, rfl⟩) (by assumption) ?_)); simp only [Act.put, List.setIfInBounds_toArray, List.set_cons_zero, List.set_cons_succ]
  (first
    | (refine held_take (i := 1) (v := ?_) rfl (by kernel_rfl) (by kernel_rfl) (by kernel_rfl) (fun _ _ _ h => h) (Or.inl ⟨rfl, ?_⟩) (by assumption) ?_; rotate_left; (intro X hSw; (try dsimp only at hSw); (go_simp <;> with_reducible rfl)))
    | (refine held_take (i := 1) (v := undef) rfl (by kernel_rfl) (by kernel_rfl) (by kernel_rfl) (fun _ _ _ h => h) (Or.inr ⟨rfl, rfl⟩) (by assumption) ?_)); simp only [Act.put, List.setIfInBounds_toArray, List.set_cons_zero, List.set_cons_succ]
  (first
    | (refine held_take (i := 2) (v := ?_) rfl (by kernel_rfl) (by kernel_rfl) (by kernel_rfl) (fun _ _ _ h => h) (Or.inl ⟨rfl, ?_⟩) (by assumption) ?_; rotate_left; (intro X hSw; (try dsimp only at hSw); (go_simp <;> with_reducible rfl)))
    | (refine held_take (i := 2) (v := undef) rfl (by kernel_rfl) (by kernel_rfl) (by kernel_rfl) (fun _ _ _ h => h) (Or.inr ⟨rfl, rfl⟩) (by assumption) ?_)); simp only [Act.put, List.setIfInBounds_toArray, List.set_cons_zero, List.set_cons_succ]
  (first
    | (refine held_take (i := 3) (v := ?_) rfl (by kernel_rfl) (by kernel_rfl) (by kernel_rfl) (fun _ _ _ h => h) (Or.inl ⟨rfl, ?_⟩) (by assumption) ?_; rotate_left; (intro X hSw; (try dsimp only at hSw); (go_simp <;> with_reducible rfl)))
    | (refine held_take (i := 3) (v := undef) rfl (by kernel_rfl) (by kernel_rfl) (by kernel_rfl) (fun _ _ _ h => h) (Or.inr ⟨rfl, rfl⟩) (by assumption) ?_)); simp only [Act.put, List.setIfInBounds_toArray, List.set_cons_zero, List.set_cons_succ]
  (first
    | (refine held_take (i := 4) (v := ?_) rfl (by kernel_rfl) (by kernel_rfl) (by kernel_rfl) (fun _ _ _ h => h) (Or.inl ⟨rfl, ?_⟩) (by assumption) ?_; rotate_left; (intro X hSw; (try dsimp only at hSw); (go_simp <;> with_reducible rfl)))
    | (refine held_take (i := 4) (v := undef) rfl (by kernel_rfl) (by kernel_rfl) (by kernel_rfl) (fun _ _ _ h => h) (Or.inr ⟨rfl, rfl⟩) (by assumption) ?_)); simp only [Act.put, List.setIfInBounds_toArray, List.set_cons_zero, List.set_cons_succ]
  refine wpAnyH_ready (rs := [5]) (by kernel_rfl) (by simp) ?_
  refine AllReadyH.cons rfl (fun K hK => ?_) AllReadyH.nil
  go_simp
  refine (HC.out _ (Below.refl _ _).drew).mono ?_
  rintro e w2 ⟨r, rfl, hr, hb2⟩
  have HB2 : Hid (Below W0.heap.size W0 w2) := (Below.refl W0.heap.size W0).drew.trans hb2
  have HR2 := Lib.hid hr
  clear hr hb2 hHeld
  refine hK.out _ _ ?_ (fun hHeld => ?_)
  · exact HS.out _ HB2.out
  clear hK K
  (first
    | (refine held_take (i := 6) (v := ?_) rfl (by kernel_rfl) (by kernel_rfl) (by kernel_rfl) (fun _ _ _ h => h) (Or.inl ⟨rfl, ?_⟩) (by assumption) ?_; rotate_left; (intro X hSw; (try dsimp only at hSw); (go_simp <;> with_reducible rfl)))
    | (refine held_take (i := 6) (v := undef) rfl (by kernel_rfl) (by kernel_rfl) (by kernel_rfl) (fun _ _ _ h => h) (Or.inr ⟨rfl, rfl⟩) (by assumption) ?_)); simp only [Act.put, List.setIfInBounds_toArray, List.set_cons_zero, List.set_cons_succ]
  (first
    | (refine held_take (i := 7) (v := ?_) rfl (by kernel_rfl) (by kernel_rfl) (by kernel_rfl) (fun _ _ _ h => h) (Or.inl ⟨rfl, ?_⟩) (by assumption) ?_; rotate_left; (intro X hSw; (try dsimp only at hSw); (go_simp <;> with_reducible rfl)))
    | (refine held_take (i := 7) (v := undef) rfl (by kernel_rfl) (by kernel_rfl) (by kernel_rfl) (fun _ _ _ h => h) (Or.inr ⟨rfl, rfl⟩) (by assumption) ?_)); simp only [Act.put, List.setIfInBounds_toArray, List.set_cons_zero, List.set_cons_succ]
  refine wpAnyH_done (by kernel_rfl) ?_ _
  have HB3 := Lib.hid (HBX.out.trans (HB2.out.mono HBX.out.size))
  go_wp2
  go_ret
  exact ⟨r, rfl, HR2.out, HB3.out⟩

set_option maxRecDepth 100000 in
set_option maxHeartbeats 4000000 in
theorem kidsList {n : Nat} (IH : GiS n) (pk pmn pmx : Int) (pns : List ByteArray) (pms : List Bool) (pkids : List Sc) (PA PM PK : Option Addr) (pa pm pc B0 : Nat) (jkids : List Js) (jK : Option Addr) (jkc B1 : Nat) (S b6 off6 kc : Nat) (w : World) (hh : htS pkids + 1 ≤ n) (hv : ScV w B0 pns pms pkids PA PM PK) (hl : LimS 1048576 (.mk pk pmn pmx pns pms pkids)) (hok : SokP (.mk pk pmn pmx pns pms pkids)) (hk : Jss w B1 jK jkids) (hm : jkids.length ≤ 1048576) (hlj : ∀ q ∈ jkids, LimJ 1048576 q) (hokj : ∀ q ∈ jkids, JokP q)
    (s5 : w.cell? ⟨S, 5, none⟩ = some (.slice (some ⟨b6, off6, none⟩) 1 kc)) (hc : ScCells w b6 off6 pk pmn pmx pns pms pkids PA PM PK pa pm pc) :
    Calls Tryz.prog 121 #[.slice jK jkids.length jkc, .func (.func 136) #[] #[.pointer (some ⟨S, 0, none⟩)]] w (fun e w' => ∃ r : Int, e = .returned (.int .i64 r) ∧ (r < 0 ↔ ∀ q ∈ jkids, FitD n (.mk pk pmn pmx pns pms pkids) q) ∧ Below w.heap.size w w') := by
  have HK := Lib.hid hk
  have HL := Lib.hid hlj
  have HOK := Lib.hid hokj
  have HCL : Hid (∀ (qk : Int) (qf : Bool) (qt : ByteArray) (qns : List ByteArray) (qkids : List Js) (QA QK : Option Addr) (qa qc : Nat) W, Below w.heap.size w W → JsV W B1 qns qkids QA QK → LimJ 1048576 (.mk qk qf qt qns qkids) → JokP (.mk qk qf qt qns qkids) → Calls Tryz.prog 136 #[.agg #[.int .i64 qk, .bool qf, .string qt, .slice QA qns.length qa, .slice QK qkids.length qc], .pointer (some ⟨S, 0, none⟩)] W (NotPost (FitD n (.mk pk pmn pmx pns pms pkids) (.mk qk qf qt qns qkids)) W)) := fun qk qf qt qns qkids QA QK qa qc W hb h1 h2 h3 =>
    listClos IH pk pmn pmx pns pms pkids PA PM PK pa pm pc B0 qk qf qt qns qkids QA QK qa qc B1 S b6 off6 kc W hh (hv.keep hb) hl hok h1 h2 h3 (cell_keep hb s5) ⟨cell_keep hb hc.c0, cell_keep hb hc.c1, cell_keep hb hc.c2, cell_keep hb hc.c3, cell_keep hb hc.c4, cell_keep hb hc.c5, hc.le⟩
  clear hk hlj hokj hh hv hl hok s5 hc IH
  go_enter Tryz.func121, Tryz.ntmps121
  go_wp2
  go_loopw [9] (fun i wr => ∃ j : Nat, j ≤ jkids.length ∧ i = .int .i64 j ∧ Hid (∀ u (h : u < jkids.length), u < j → FitD n (.mk pk pmn pmx pns pms pkids) jkids[u]) ∧ Hid (Below w.heap.size w wr)) (fun i _ => jkids.length - (intOf i).toNat)
  case atStart => exact ⟨0, Nat.zero_le _, rfl, fun u _ hu => by omega, Below.refl _ _⟩
  case round =>
    obtain ⟨j, hj, rfl, HU, HB⟩ := hrel
    by_cases hlt : j < jkids.length
    · have hlt' : (j : Int) < (jkids.length : Int) := by omega
      obtain ⟨b, off, rfl, hp⟩ := (HK.out.keep HB.out).at_ hlt
      have hm1 := List.getElem_mem hlt
      have hlim := HL.out _ hm1
      have ho1 := HOK.out _ hm1
      have HU2 : Hid (FitD n (.mk pk pmn pmx pns pms pkids) jkids[j] → ∀ u (h : u < jkids.length), u < j + 1 → FitD n (.mk pk pmn pmx pns pms pkids) jkids[u]) := fun h1 u hu huj => by
        rcases Nat.lt_succ_iff_lt_or_eq.1 huj with h3 | h3
        · exact HU.out u hu h3
        · subst h3; exact h1
      have HNO : Hid ((∀ q ∈ jkids, FitD n (.mk pk pmn pmx pns pms pkids) q) → FitD n (.mk pk pmn pmx pns pms pkids) jkids[j]) := fun h => h _ hm1
      clear hm1
      generalize jkids[j] = q at *
      obtain ⟨qk, qf, qt, qns, qkids⟩ := q
      obtain ⟨QA, QK, qa, qc, hd, hvq⟩ := hp.open_
      obtain ⟨d0, d1, d2, d3, d4, dle⟩ := hd
      have hbx : Below wr.heap.size wr (wr.alloc (.cells #[.int .i64 qk, .bool qf, .string qt, .slice QA qns.length qa, .slice QK qkids.length qc] 42)) := below_box _
      have HB1 := Lib.hid (HB.out.trans (hbx.mono HB.out.size))
      have HC2 := Lib.hid (HCL.out qk qf qt qns qkids QA QK qa qc (wr.alloc (.cells #[.int .i64 qk, .bool qf, .string qt, .slice QA qns.length qa, .slice QK qkids.length qc] 42)) HB1.out (hvq.keep hbx) hlim ho1)
      clear hp hvq hlim ho1 dle hbx
      go_wp2_with fail
      refine HC2.out.mono ?_
      rintro e w2 ⟨r, rfl, hr, hb⟩
      have HR := Lib.hid hr
      have HB2 := Lib.hid (HB1.out.trans (hb.mono HB1.out.size))
      clear hr hb HC2 HB1 d0 d1 d2 d3 d4
      cases r
      · have HF : Hid (¬ ∀ q ∈ jkids, FitD n (.mk pk pmn pmx pns pms pkids) q) := fun h => by have := HR.out.2 (HNO.out h); cases this
        go_wp2
        go_ret
        exact ⟨j, rfl, ⟨fun h => by omega, fun h => absurd h HF.out⟩, HB2.out⟩
      · have HU3 := Lib.hid (HU2.out (by first | exact HR.out.1 rfl | exact HR.out.1 trivial))
        clear HU HU2 HNO HR
        go_wp2
        go_roundw
        case rel => exact ⟨j + 1, by omega, by go_num, HU3, HB2⟩
        case measure => simp [intOf]; omega
    · have hlt' : ¬ (j : Int) < (jkids.length : Int) := by omega
      have HT : Hid (∀ q ∈ jkids, FitD n (.mk pk pmn pmx pns pms pkids) q) := fun q hq => by
        obtain ⟨u, hu, rfl⟩ := List.getElem_of_mem hq
        exact HU.out u hu (by omega)
      go_wp2
      go_ret
      exact ⟨-1, rfl, ⟨fun _ => HT.out, fun _ => by omega⟩, HB.out⟩

set_option maxRecDepth 100000 in
set_option maxHeartbeats 8000000 in
theorem fitsList_any {n : Nat} (IH : GiS n) (mn mx : Int) (ns : List ByteArray) (ms : List Bool) (kids : List Sc) (A M KA : Option Addr) (ca ma kc B0 : Nat) (jk : Int) (jf : Bool) (jt : ByteArray) (jns : List ByteArray) (jkids : List Js) (jA jK : Option Addr) (jca jkc B1 : Nat) (w : World) (hh : htS kids ≤ n) (hv : ScV w B0 ns ms kids A M KA) (hl : LimS 1048576 (.mk 5 mn mx ns ms kids)) (hok : SokP (.mk 5 mn mx ns ms kids)) (hvj : JsV w B1 jns jkids jA jK) (hlj : LimJ 1048576 (.mk jk jf jt jns jkids)) (hokj : JokP (.mk jk jf jt jns jkids)) :
    Calls Tryz.prog 104 #[.agg #[.int .i64 5, .int .i64 mn, .int .i64 mx, .slice A ns.length ca, .slice M ms.length ma, .slice KA kids.length kc], .agg #[.int .i64 jk, .bool jf, .string jt, .slice jA jns.length jca, .slice jK jkids.length jkc]] w (BoolPost (jk = 5 ∧ (mn ≤ (jkids.length : Int) ∧ (jkids.length : Int) ≤ mx) ∧ ∀ q ∈ jkids, ∀ s ∈ kids.head?, FitD n s q) w) := by
  obtain ⟨Q, hQ⟩ : ∃ Q : Prop, Q ↔ (jk = 5 ∧ (mn ≤ (jkids.length : Int) ∧ (jkids.length : Int) ≤ mx) ∧ ∀ q ∈ jkids, ∀ s ∈ kids.head?, FitD n s q) := ⟨_, Iff.rfl⟩
  rw [show (jk = 5 ∧ (mn ≤ (jkids.length : Int) ∧ (jkids.length : Int) ≤ mx) ∧ ∀ q ∈ jkids, ∀ s ∈ kids.head?, FitD n s q) = Q from (propext hQ).symm]
  have HQ := Lib.hid hQ
  obtain ⟨W0, hW0⟩ : ∃ W0, (w.alloc (.cells #[.int .i64 5, .int .i64 mn, .int .i64 mx, .slice A ns.length ca, .slice M ms.length ma, .slice KA kids.length kc] 31)).alloc (.cells #[.int .i64 jk, .bool jf, .string jt, .slice jA jns.length jca, .slice jK jkids.length jkc] 42) = W0 := ⟨_, rfl⟩
  have HBX : Hid (Below w.heap.size w W0) := by rw [← hW0]; exact (below_box _).alloc (by simp) _
  have HOS : Hid (Own W0 w.heap.size 31 (c6 5 mn mx A ns.length ca M ms.length ma KA kids.length kc)) := by rw [← hW0]; exact (Own.new w 31 #[.int .i64 5, .int .i64 mn, .int .i64 mx, .slice A ns.length ca, .slice M ms.length ma, .slice KA kids.length kc]).alloc _
  have HOJ : Hid (Own W0 (w.heap.size + 1) 42 (c5 jk jf jt jA jns.length jca jK jkids.length jkc)) := by
    rw [← hW0]
    have := Own.new (w.alloc (.cells #[.int .i64 5, .int .i64 mn, .int .i64 mx, .slice A ns.length ca, .slice M ms.length ma, .slice KA kids.length kc] 31)) 42 #[.int .i64 jk, .bool jf, .string jt, .slice jA jns.length jca, .slice jK jkids.length jkc]
    rw [World.size_alloc] at this
    exact this
  have HV := Lib.hid (hv.keep HBX.out)
  have HVJ := Lib.hid (hvj.keep HBX.out)
  have HI := Lib.hid IH
  have HH := Lib.hid hh
  have HOK := Lib.hid hok
  have HOKJ := Lib.hid hokj
  have HLJJ := Lib.hid hlj
  cases hl with
  | mk _ _ _ _ _ _ l2 l3 lm l4 l5 lb =>
  cases hlj with
  | mk _ _ _ _ _ m1 m2 m3 m4 m5 =>
  have HL5 := Lib.hid l5
  have HM5 := Lib.hid m5
  have HW := Lib.hid hW0
  clear hQ hW0 hv hvj IH hh hok hokj l3 l5 lb m3 m5
  obtain ⟨p0, p1, p2, p3, p4, p5⟩ := c6_get HOS.out
  obtain ⟨q0, q1, q2, q3, q4⟩ := c5_get HOJ.out
  have pl := HOS.out.lt
  have ql := HOJ.out.lt
  go_enter Tryz.func104, Tryz.ntmps104
  go_upto_region 1 with fail
  rw [HW.out]
  clear HW
  by_cases e : jk = 5
  · have e' : (jk != 5) = false := by simp [e]
    have HE := Lib.hid e
    clear e
    have hk1 : kids.length = 1 := by
      rcases HOK.out.one with h | h | h | h | h | h <;> omega
    have hk0 : 0 < kids.length := by omega
    obtain ⟨b6, off6, rfl, hp⟩ := HV.out.k.at_ hk0
    obtain ⟨p, hpk⟩ : ∃ p, kids = [p] := by
      match kids, hk1 with
      | [p], _ => exact ⟨p, rfl⟩
    have hpe : kids[0] = p := by subst hpk; rfl
    have hm1 := List.getElem_mem hk0
    have hlim := HL5.out _ hm1
    have hht := htS_mem hm1
    have ho1 := HOK.out.kids _ hm1
    rw [hpe] at hp hlim hht ho1
    rw [Nat.zero_mul, Nat.add_zero] at hp
    have hs5 := p5
    rw [hk1] at hs5
    have HPK := Lib.hid hpk
    clear hm1 hpe hpk
    obtain ⟨pk, pmn, pmx, pns, pms, pkids⟩ := p
    rw [htS_mk] at hht
    obtain ⟨PA, PM, PK, pa, pm, pc, hc, hvp⟩ := hp.open_
    have HKF : Hid (∀ W, Below W0.heap.size W0 W → Calls Tryz.prog 121 #[.slice jK jkids.length jkc, .func (.func 136) #[] #[.pointer (some ⟨w.heap.size, 0, none⟩)]] W (fun e w' => ∃ r : Int, e = .returned (.int .i64 r) ∧ (r < 0 ↔ ∀ q ∈ jkids, FitD n (.mk pk pmn pmx pns pms pkids) q) ∧ Below W.heap.size W w')) := fun W hb =>
      kidsList HI.out pk pmn pmx pns pms pkids PA PM PK pa pm pc B0 jkids jK jkc B1 w.heap.size b6 off6 kc W (by have := HH.out; omega) (hvp.keep hb) hlim ho1 (HVJ.out.k.keep hb) m4 HM5.out HOKJ.out.kids (cell_keep hb hs5) ⟨cell_keep hb hc.c0, cell_keep hb hc.c1, cell_keep hb hc.c2, cell_keep hb hc.c3, cell_keep hb hc.c4, cell_keep hb hc.c5, hc.le⟩
    have HQ5 : Hid (Q ↔ (mn ≤ (jkids.length : Int) ∧ (jkids.length : Int) ≤ mx) ∧ ∀ q ∈ jkids, FitD n (.mk pk pmn pmx pns pms pkids) q) := by
      show _ ↔ _
      rw [HQ.out, HPK.out]
      simp only [HE.out, true_and, List.head?_cons, Option.mem_some_iff, forall_eq']
    have HP5 := Lib.hid (HOS.out)
    clear hp hvp hlim hht ho1 hc hs5 hk1 hk0 HPK
    go_wp2_with fail
    refine (allows_any 5 mn mx A M (some ⟨b6, off6, none⟩) ns.length ca ms.length ma kids.length kc (jkids.length : Int) _).mono ?_
    rintro e w2 ⟨r, rfl, hr, hb⟩
    have HR := Lib.hid hr
    have HB := Lib.hid (HBX.out.trans (hb.mono HBX.out.size))
    have HBW := Lib.hid hb
    clear hr hb p0 p1 p2 p3 p4 p5 q0 q1 q2 q3 q4 pl ql
    cases r
    · have HF : Hid (¬ Q) := fun h => by have := HR.out.2 (HQ5.out.1 h).1; cases this
      go_wp2
      go_ret
      exact ⟨false, rfl, iffF HF.out, HB.out⟩
    · have hin := (show mn ≤ (jkids.length : Int) ∧ (jkids.length : Int) ≤ mx from by first | exact HR.out.1 rfl | exact HR.out.1 trivial)
      have HIN := Lib.hid hin
      clear hin HR
      obtain ⟨q0, q1, q2, q3, q4⟩ := c5_get (HOJ.out.keep HBW.out)
      have ql := (HOJ.out.keep HBW.out).lt
      have HK2 := Lib.hid (HKF.out w2 HBW.out)
      go_wp2_with fail
      refine HK2.out.mono ?_
      rintro e w3 ⟨r, rfl, hr, hb⟩
      have HR := Lib.hid hr
      have HB3 := Lib.hid (HB.out.trans (hb.mono HB.out.size))
      clear hr hb q0 q1 q2 q3 q4 ql HK2 HKF
      go_wp2
      go_ret
      refine ⟨_, rfl, ?_, HB3.out⟩
      rw [HQ5.out, decide_eq_true_eq, HR.out]
      exact ⟨fun h => ⟨HIN.out, h⟩, fun h => h.2⟩
  · have e' : (jk != 5) = true := by simp [e]
    have HF : Hid (¬ Q) := fun h => e (HQ.out.1 h).1
    clear e
    go_wp2
    go_ret
    exact ⟨false, rfl, iffF HF.out, HBX.out⟩

end Go.Proofs.YtkhcappjhefkjaaGreatDoor

