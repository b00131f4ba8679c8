/- The program's methods fitsForm and fits. (written by gen_e3.py) -/
import Derived.Test.YtkhcappjhefkjaaGreatDoorE2
import Derived.Test.YtkhcappjhefkjaaGreatDoorF4
namespace Go.Proofs.YtkhcappjhefkjaaGreatDoor
open Go.RowKit
set_option linter.unusedVariables false

set_option maxRecDepth 100000 in
set_option maxHeartbeats 8000000 in
theorem fitsForm_any {n : Nat} (IH : GiS n) (mn mx : Int) (ns : List ByteArray) (ms : List Bool) (kids : List Sc) (A M KA : Option Addr) (ca ma kc B0 : Nat) (jk : Int) (jf : Bool) (jt : ByteArray) (jns : List ByteArray) (jkids : List Js) (jA jK : Option Addr) (jca jkc B1 : Nat) (w : World) (hh : htS kids ≤ n) (hv : ScV w B0 ns ms kids A M KA) (hl : LimS 1048576 (.mk 6 mn mx ns ms kids)) (hok : SokP (.mk 6 mn mx ns ms kids)) (hvj : JsV w B1 jns jkids jA jK) (hlj : LimJ 1048576 (.mk jk jf jt jns jkids)) (hokj : JokP (.mk jk jf jt jns jkids)) :
    Calls Tryz.prog 108 #[.agg #[.int .i64 6, .int .i64 mn, .int .i64 mx, .slice A ns.length ca, .slice M ms.length ma, .slice KA kids.length kc], .agg #[.int .i64 jk, .bool jf, .string jt, .slice jA jns.length jca, .slice jK jkids.length jkc]] w (BoolPost (jk = 6 ∧ memP (FitD n) (sZip ns ms kids) (jZip jns jkids)) w) := by
  obtain ⟨Q, hQ⟩ : ∃ Q : Prop, Q ↔ (jk = 6 ∧ memP (FitD n) (sZip ns ms kids) (jZip jns jkids)) := ⟨_, Iff.rfl⟩
  rw [show (jk = 6 ∧ memP (FitD n) (sZip ns ms kids) (jZip jns jkids)) = Q from (propext hQ).symm]
  have HQ := Lib.hid hQ
  obtain ⟨W0, hW0⟩ : ∃ W0, (w.alloc (.cells #[.int .i64 6, .int .i64 mn, .int .i64 mx, .slice A ns.length ca, .slice M ms.length ma, .slice KA kids.length kc] 31)).alloc (.cells #[.int .i64 jk, .bool jf, .string jt, .slice jA jns.length jca, .slice jK jkids.length jkc] 42) = W0 := ⟨_, rfl⟩
  have HBX : Hid (Below w.heap.size w W0) := by rw [← hW0]; exact (below_box _).alloc (by simp) _
  have HOS : Hid (Own W0 w.heap.size 31 (c6 6 mn mx A ns.length ca M ms.length ma KA kids.length kc)) := by rw [← hW0]; exact (Own.new w 31 #[.int .i64 6, .int .i64 mn, .int .i64 mx, .slice A ns.length ca, .slice M ms.length ma, .slice KA kids.length kc]).alloc _
  have HOJ : Hid (Own W0 (w.heap.size + 1) 42 (c5 jk jf jt jA jns.length jca jK jkids.length jkc)) := by
    rw [← hW0]
    have := Own.new (w.alloc (.cells #[.int .i64 6, .int .i64 mn, .int .i64 mx, .slice A ns.length ca, .slice M ms.length ma, .slice KA kids.length kc] 31)) 42 #[.int .i64 jk, .bool jf, .string jt, .slice jA jns.length jca, .slice jK jkids.length jkc]
    rw [World.size_alloc] at this
    exact this
  have HV := Lib.hid (hv.keep HBX.out)
  have HVJ := Lib.hid (hvj.keep HBX.out)
  have HI := Lib.hid IH
  have HH := Lib.hid hh
  have HOK := Lib.hid hok
  have HOKJ := Lib.hid hokj
  have HLJJ := Lib.hid hlj
  cases hl with
  | mk _ _ _ _ _ _ l2 l3 lm l4 l5 lb =>
  cases hlj with
  | mk _ _ _ _ _ m1 m2 m3 m4 m5 =>
  have HL5 := Lib.hid l5
  have HM5 := Lib.hid m5
  have HW := Lib.hid hW0
  clear hQ hW0 hv hvj IH hh hok hokj l3 l5 lb m3 m5
  obtain ⟨p0, p1, p2, p3, p4, p5⟩ := c6_get HOS.out
  obtain ⟨q0, q1, q2, q3, q4⟩ := c5_get HOJ.out
  have pl := HOS.out.lt
  have ql := HOJ.out.lt
  go_enter Tryz.func108, Tryz.ntmps108
  go_upto_region 1 with fail
  rw [HW.out]
  clear HW
  by_cases e : jk = 6
  · have e' : (jk != 6) = false := by simp [e]
    have hz : ns.length = kids.length ∧ ms.length = kids.length := by
      rcases HOK.out.one with h | h | h | h | h | h
      · omega
      · omega
      · omega
      · exact ⟨h.2.2.2.1, h.2.2.2.2.1⟩
      · omega
      · omega
    have hy : jns.length = jkids.length := by
      rcases HOKJ.out.one with h | h | h | h | h | h
      · omega
      · omega
      · omega
      · omega
      · omega
      · exact h.2.2.2.1
    have HE : Hid (ms.length = ns.length ∧ kids.length = ns.length ∧ jkids.length = jns.length) := ⟨by omega, by omega, by omega⟩
    have HQ0 : Hid (Q ↔ MemAt (FitD n) ns ms kids jns jkids 0 0) := by
      show _ ↔ _
      rw [HQ.out]
      unfold MemAt
      simp only [List.drop_zero]
      exact ⟨fun h => h.2, fun h => ⟨e, h⟩⟩
    have HJK := Lib.hid e
    have hns : ns.length ≤ 1048576 := l2
    have hjns : jns.length ≤ 1048576 := m2
    clear hz hy e HQ
    go_wp2
    clear p0 p1 p2 p3 p4 p5 q0 q1 q2 q3 q4 pl ql
    go_loopw [5, 14] (fun at_ i wr => ∃ a j : Nat, at_ = .int .i64 a ∧ i = .int .i64 j ∧ j ≤ ns.length ∧ a ≤ jns.length ∧ Hid (Q ↔ MemAt (FitD n) ns ms kids jns jkids j a) ∧ Hid (Below W0.heap.size W0 wr)) (fun _ i _ => ns.length - (intOf i).toNat)
    case atStart => exact ⟨0, 0, rfl, rfl, by omega, by omega, HQ0, Below.refl _ _⟩
    case round =>
      clear HQ0
      obtain ⟨a, i, rfl, rfl, hi, ha, HQ, HB⟩ := hrel
      obtain ⟨p0, p1, p2, p3, p4, p5⟩ := c6_get (HOS.out.keep HB.out)
      obtain ⟨q0, q1, q2, q3, q4⟩ := c5_get (HOJ.out.keep HB.out)
      have pl := (HOS.out.keep HB.out).lt
      have ql := (HOJ.out.keep HB.out).lt
      by_cases hin : i < ns.length
      · have hin' : (i : Int) < (ns.length : Int) := by omega
        have hims : i < ms.length := by have := HE.out.1; omega
        have hims' : (i : Int) < (ms.length : Int) := by omega
        have hik : i < kids.length := by have := HE.out.2.1; omega
        have hik' : (i : Int) < (kids.length : Int) := by omega
        obtain ⟨b3, off3, rfl, e3⟩ := (HV.out.a.keep HB.out).str hin
        obtain ⟨b4, off4, rfl, e4⟩ := (HV.out.m.keep HB.out).bol' hims
        by_cases hit : ∃ h : a < jns.length, jns[a] = ns[i]
        · obtain ⟨han, he⟩ := hit
          have han' : (a : Int) < (jns.length : Int) := by omega
          have hak : a < jkids.length := by have := HE.out.2.2; omega
          have hak' : (a : Int) < (jkids.length : Int) := by omega
          have HHIT := Lib.hid (memAt_hit (R := FitD n) HE.out.1 HE.out.2.1 HE.out.2.2 hin han he)
          obtain ⟨b7, off7, rfl, e7⟩ := (HVJ.out.a.keep HB.out).str han
          obtain ⟨b6, off6, rfl, hp⟩ := (HV.out.k.keep HB.out).at_ hik
          obtain ⟨b5, off5, rfl, hq⟩ := (HVJ.out.k.keep HB.out).at_ hak
          have hm1 := List.getElem_mem hik
          have hm2 := List.getElem_mem hak
          have hlim := HL5.out _ hm1
          have hlimj := HM5.out _ hm2
          have hht := htS_mem hm1
          have ho1 := HOK.out.kids _ hm1
          have ho2 := HOKJ.out.kids _ hm2
          rw [he] at e7
          generalize ns[i] = nm at *
          generalize ms[i] = mu at *
          clear hm1 hm2 he
          generalize kids[i] = p at *
          generalize jkids[a] = q at *
          obtain ⟨pk, pmn, pmx, pns, pms, pkids⟩ := p
          obtain ⟨qk, qf, qt, qns, qkids⟩ := q
          rw [htS_mk] at hht
          obtain ⟨PA, PM, PK, pa, pm, pc, hc, hvp⟩ := hp.open_
          obtain ⟨c0, c1, c2, c3, c4, c5, cle⟩ := hc
          obtain ⟨QA, QK, qa, qc, hd, hvq⟩ := hq.open_
          obtain ⟨d0, d1, d2, d3, d4, dle⟩ := hd
          have HC : Hid (∀ W, Below wr.heap.size wr W → Calls Tryz.prog 49 #[.agg #[.int .i64 pk, .int .i64 pmn, .int .i64 pmx, .slice PA pns.length pa, .slice PM pms.length pm, .slice PK pkids.length pc], .agg #[.int .i64 qk, .bool qf, .string qt, .slice QA qns.length qa, .slice QK qkids.length qc]] W (BoolPost (FitD n (.mk pk pmn pmx pns pms pkids) (.mk qk qf qt qns qkids)) W)) := fun W hbW =>
            HI.out pk pmn pmx pns pms pkids PA PM PK pa pm pc B0 qk qf qt qns qkids QA QK qa qc B1 W (by have := HH.out; omega) (hvp.keep hbW) hlim ho1 (hvq.keep hbW) hlimj ho2
          have hne : (nm.toList == nm.toList) = true := by simp
          have HBR : Hid (Below W0.heap.size W0 wr) := HB
          clear hp hq hvp hvq hlim hlimj hht ho1 ho2 cle dle
          go_upto_region 8 with fail
          have HBD : Hid (Below wr.heap.size wr wr) := Below.refl _ _
          have HS : Hid (∀ X, Below wr.heap.size wr X → ((fun X => X.cell? ⟨w.heap.size, 5, none⟩ = some (.slice (some ⟨b6, off6, none⟩) kids.length kc) ∧ X.cell? ⟨b6, off6 + i * 6, none⟩ = some (.int .i64 pk) ∧ X.cell? ⟨b6, off6 + i * 6 + 1, none⟩ = some (.int .i64 pmn) ∧ X.cell? ⟨b6, off6 + i * 6 + 2, none⟩ = some (.int .i64 pmx) ∧ X.cell? ⟨b6, off6 + i * 6 + 3, none⟩ = some (.slice PA pns.length pa) ∧ X.cell? ⟨b6, off6 + i * 6 + 4, none⟩ = some (.slice PM pms.length pm) ∧ X.cell? ⟨b6, off6 + i * 6 + 5, none⟩ = some (.slice PK pkids.length pc) ∧ X.cell? ⟨w.heap.size + 1, 4, none⟩ = some (.slice (some ⟨b5, off5, none⟩) jkids.length jkc) ∧ X.cell? ⟨b5, off5 + a * 5, none⟩ = some (.int .i64 qk) ∧ X.cell? ⟨b5, off5 + a * 5 + 1, none⟩ = some (.bool qf) ∧ X.cell? ⟨b5, off5 + a * 5 + 2, none⟩ = some (.string qt) ∧ X.cell? ⟨b5, off5 + a * 5 + 3, none⟩ = some (.slice QA qns.length qa) ∧ X.cell? ⟨b5, off5 + a * 5 + 4, none⟩ = some (.slice QK qkids.length qc))) X) := fun X h => ⟨cell_keep h p5, cell_keep h c0, cell_keep h c1, cell_keep h c2, cell_keep h c3, cell_keep h c4, cell_keep h c5, cell_keep h q4, cell_keep h d0, cell_keep h d1, cell_keep h d2, cell_keep h d3, cell_keep h d4⟩
          clear p0 p1 p2 p3 p4 p5 q0 q1 q2 q3 q4 c0 c1 c2 c3 c4 c5 d0 d1 d2 d3 d4 e3 e4 e7
          refine wp_region_held_drew (S := (fun X => X.cell? ⟨w.heap.size, 5, none⟩ = some (.slice (some ⟨b6, off6, none⟩) kids.length kc) ∧ X.cell? ⟨b6, off6 + i * 6, none⟩ = some (.int .i64 pk) ∧ X.cell? ⟨b6, off6 + i * 6 + 1, none⟩ = some (.int .i64 pmn) ∧ X.cell? ⟨b6, off6 + i * 6 + 2, none⟩ = some (.int .i64 pmx) ∧ X.cell? ⟨b6, off6 + i * 6 + 3, none⟩ = some (.slice PA pns.length pa) ∧ X.cell? ⟨b6, off6 + i * 6 + 4, none⟩ = some (.slice PM pms.length pm) ∧ X.cell? ⟨b6, off6 + i * 6 + 5, none⟩ = some (.slice PK pkids.length pc) ∧ X.cell? ⟨w.heap.size + 1, 4, none⟩ = some (.slice (some ⟨b5, off5, none⟩) jkids.length jkc) ∧ X.cell? ⟨b5, off5 + a * 5, none⟩ = some (.int .i64 qk) ∧ X.cell? ⟨b5, off5 + a * 5 + 1, none⟩ = some (.bool qf) ∧ X.cell? ⟨b5, off5 + a * 5 + 2, none⟩ = some (.string qt) ∧ X.cell? ⟨b5, off5 + a * 5 + 3, none⟩ = some (.slice QA qns.length qa) ∧ X.cell? ⟨b5, off5 + a * 5 + 4, none⟩ = some (.slice QK qkids.length qc))) (by kernel_rfl) ?_ (fun hHeld => ?_)
          · exact HS.out _ HBD.out.drew
          (first
            | (refine held_take (i := 0) (v := ?_) rfl (by kernel_rfl) (by kernel_rfl) (by kernel_rfl) (fun _ _ _ h => h) (Or.inl ⟨rfl, ?_⟩) (by assumption) ?_; rotate_left; (intro X hSw; (try dsimp only at hSw); (go_simp <;> with_reducible rfl)))
            | (refine held_take (i := 0) (v := undef) rfl (by kernel_rfl) (by kernel_rfl) (by kernel_rfl) (fun _ _ _ h => h) (Or.inr ⟨rfl, rfl⟩) (by assumption) ?_)); simp only [Act.put, List.setIfInBounds_toArray, List.set_cons_zero, List.set_cons_succ]
          (first
            | (refine held_take (i := 1) (v := ?_) rfl (by kernel_rfl) (by kernel_rfl) (by kernel_rfl) (fun _ _ _ h => h) (Or.inl ⟨rfl, ?_⟩) (by assumption) ?_; rotate_left; (intro X hSw; (try dsimp only at hSw); (go_simp <;> with_reducible rfl)))
            | (refine held_take (i := 1) (v := undef) rfl (by kernel_rfl) (by kernel_rfl) (by kernel_rfl) (fun _ _ _ h => h) (Or.inr ⟨rfl, rfl⟩) (by assumption) ?_)); simp only [Act.put, List.setIfInBounds_toArray, List.set_cons_zero, List.set_cons_succ]
          (first
            | (refine held_take (i := 2) (v := ?_) rfl (by kernel_rfl) (by kernel_rfl) (by kernel_rfl) (fun _ _ _ h => h) (Or.inl ⟨rfl, ?_⟩) (by assumption) ?_; rotate_left; (intro X hSw; (try dsimp only at hSw); (go_simp <;> with_reducible rfl)))
            | (refine held_take (i := 2) (v := undef) rfl (by kernel_rfl) (by kernel_rfl) (by kernel_rfl) (fun _ _ _ h => h) (Or.inr ⟨rfl, rfl⟩) (by assumption) ?_)); simp only [Act.put, List.setIfInBounds_toArray, List.set_cons_zero, List.set_cons_succ]
          (first
            | (refine held_take (i := 3) (v := ?_) rfl (by kernel_rfl) (by kernel_rfl) (by kernel_rfl) (fun _ _ _ h => h) (Or.inl ⟨rfl, ?_⟩) (by assumption) ?_; rotate_left; (intro X hSw; (try dsimp only at hSw); (go_simp <;> with_reducible rfl)))
            | (refine held_take (i := 3) (v := undef) rfl (by kernel_rfl) (by kernel_rfl) (by kernel_rfl) (fun _ _ _ h => h) (Or.inr ⟨rfl, rfl⟩) (by assumption) ?_)); simp only [Act.put, List.setIfInBounds_toArray, List.set_cons_zero, List.set_cons_succ]
          (first
            | (refine held_take (i := 4) (v := ?_) rfl (by kernel_rfl) (by kernel_rfl) (by kernel_rfl) (fun _ _ _ h => h) (Or.inl ⟨rfl, ?_⟩) (by assumption) ?_; rotate_left; (intro X hSw; (try dsimp only at hSw); (go_simp <;> with_reducible rfl)))
            | (refine held_take (i := 4) (v := undef) rfl (by kernel_rfl) (by kernel_rfl) (by kernel_rfl) (fun _ _ _ h => h) (Or.inr ⟨rfl, rfl⟩) (by assumption) ?_)); simp only [Act.put, List.setIfInBounds_toArray, List.set_cons_zero, List.set_cons_succ]
          (first
            | (refine held_take (i := 5) (v := ?_) rfl (by kernel_rfl) (by kernel_rfl) (by kernel_rfl) (fun _ _ _ h => h) (Or.inl ⟨rfl, ?_⟩) (by assumption) ?_; rotate_left; (intro X hSw; (try dsimp only at hSw); (go_simp <;> with_reducible rfl)))
            | (refine held_take (i := 5) (v := undef) rfl (by kernel_rfl) (by kernel_rfl) (by kernel_rfl) (fun _ _ _ h => h) (Or.inr ⟨rfl, rfl⟩) (by assumption) ?_)); simp only [Act.put, List.setIfInBounds_toArray, List.set_cons_zero, List.set_cons_succ]
          (first
            | (refine held_take (i := 6) (v := ?_) rfl (by kernel_rfl) (by kernel_rfl) (by kernel_rfl) (fun _ _ _ h => h) (Or.inl ⟨rfl, ?_⟩) (by assumption) ?_; rotate_left; (intro X hSw; (try dsimp only at hSw); (go_simp <;> with_reducible rfl)))
            | (refine held_take (i := 6) (v := undef) rfl (by kernel_rfl) (by kernel_rfl) (by kernel_rfl) (fun _ _ _ h => h) (Or.inr ⟨rfl, rfl⟩) (by assumption) ?_)); simp only [Act.put, List.setIfInBounds_toArray, List.set_cons_zero, List.set_cons_succ]
          (first
            | (refine held_take (i := 7) (v := ?_) rfl (by kernel_rfl) (by kernel_rfl) (by kernel_rfl) (fun _ _ _ h => h) (Or.inl ⟨rfl, ?_⟩) (by assumption) ?_; rotate_left; (intro X hSw; (try dsimp only at hSw); (go_simp <;> with_reducible rfl)))
            | (refine held_take (i := 7) (v := undef) rfl (by kernel_rfl) (by kernel_rfl) (by kernel_rfl) (fun _ _ _ h => h) (Or.inr ⟨rfl, rfl⟩) (by assumption) ?_)); simp only [Act.put, List.setIfInBounds_toArray, List.set_cons_zero, List.set_cons_succ]
          (first
            | (refine held_take (i := 8) (v := ?_) rfl (by kernel_rfl) (by kernel_rfl) (by kernel_rfl) (fun _ _ _ h => h) (Or.inl ⟨rfl, ?_⟩) (by assumption) ?_; rotate_left; (intro X hSw; (try dsimp only at hSw); (go_simp <;> with_reducible rfl)))
            | (refine held_take (i := 8) (v := undef) rfl (by kernel_rfl) (by kernel_rfl) (by kernel_rfl) (fun _ _ _ h => h) (Or.inr ⟨rfl, rfl⟩) (by assumption) ?_)); simp only [Act.put, List.setIfInBounds_toArray, List.set_cons_zero, List.set_cons_succ]
          (first
            | (refine held_take (i := 9) (v := ?_) rfl (by kernel_rfl) (by kernel_rfl) (by kernel_rfl) (fun _ _ _ h => h) (Or.inl ⟨rfl, ?_⟩) (by assumption) ?_; rotate_left; (intro X hSw; (try dsimp only at hSw); (go_simp <;> with_reducible rfl)))
            | (refine held_take (i := 9) (v := undef) rfl (by kernel_rfl) (by kernel_rfl) (by kernel_rfl) (fun _ _ _ h => h) (Or.inr ⟨rfl, rfl⟩) (by assumption) ?_)); simp only [Act.put, List.setIfInBounds_toArray, List.set_cons_zero, List.set_cons_succ]
          refine wpAnyH_ready (rs := [10]) (by kernel_rfl) (by simp) ?_
          refine AllReadyH.cons rfl (fun K hK => ?_) AllReadyH.nil
          go_simp
          refine (HC.out _ HBD.out.drew).mono ?_
          rintro e w2 ⟨r, rfl, hr, hb2⟩
          have HB2 := Lib.hid (HBD.out.drew.trans (hb2.mono HBD.out.drew.size))
          have HR2 := Lib.hid hr
          clear hr hb2 hHeld
          refine hK.out _ _ ?_ (fun hHeld => ?_)
          · exact HS.out _ HB2.out
          clear hK K
          have HB3 := Lib.hid (HB.out.trans (HB2.out.mono HB.out.size))
          cases r
          · have HF : Hid (¬ Q) := fun h => by
              have := HR2.out.2 (HHIT.out.1 (HQ.out.1 h)).1
              cases this
            (first
              | (refine held_take (i := 11) (v := ?_) rfl (by kernel_rfl) (by kernel_rfl) (by kernel_rfl) (fun _ _ _ h => h) (Or.inl ⟨rfl, ?_⟩) (by assumption) ?_; rotate_left; (intro X hSw; (try dsimp only at hSw); (go_simp <;> with_reducible rfl)))
              | (refine held_take (i := 11) (v := undef) rfl (by kernel_rfl) (by kernel_rfl) (by kernel_rfl) (fun _ _ _ h => h) (Or.inr ⟨rfl, rfl⟩) (by assumption) ?_)); simp only [Act.put, List.setIfInBounds_toArray, List.set_cons_zero, List.set_cons_succ]
            refine wpAnyH_done (by kernel_rfl) ?_ _
            go_wp2
            go_ret
            exact ⟨false, rfl, iffF HF.out, HBX.out.trans (HB3.out.mono HBX.out.size)⟩
          · have hfit := (show FitD n (.mk pk pmn pmx pns pms pkids) (.mk qk qf qt qns qkids) from by first | exact HR2.out.1 rfl | exact HR2.out.1 trivial)
            have HQ2 : Hid (Q ↔ MemAt (FitD n) ns ms kids jns jkids (i + 1) (a + 1)) := by
              show _ ↔ _
              rw [HQ.out, HHIT.out]
              exact ⟨fun h => h.2, fun h => ⟨hfit, h⟩⟩
            clear hfit HR2 HQ HHIT
            (first
              | (refine held_take (i := 11) (v := ?_) rfl (by kernel_rfl) (by kernel_rfl) (by kernel_rfl) (fun _ _ _ h => h) (Or.inl ⟨rfl, ?_⟩) (by assumption) ?_; rotate_left; (intro X hSw; (try dsimp only at hSw); (go_simp <;> with_reducible rfl)))
              | (refine held_take (i := 11) (v := undef) rfl (by kernel_rfl) (by kernel_rfl) (by kernel_rfl) (fun _ _ _ h => h) (Or.inr ⟨rfl, rfl⟩) (by assumption) ?_)); simp only [Act.put, List.setIfInBounds_toArray, List.set_cons_zero, List.set_cons_succ]
            refine wpAnyH_done (by kernel_rfl) ?_ _
            go_wp2
            go_roundw
            case rel => exact ⟨a + 1, i + 1, by go_num, by go_num, by omega, by omega, HQ2, HB3⟩
            case measure => simp [intOf]; omega
        · have HMISS := Lib.hid (memAt_miss (R := FitD n) HE.out.1 HE.out.2.1 HE.out.2.2 hin (fun h1 h2 => hit ⟨h1, h2⟩))
          obtain ⟨mu, hmu⟩ : ∃ mu, ms[i]'hims = mu := ⟨_, rfl⟩
          rw [hmu] at e4 HMISS
          by_cases han : a < jns.length
          · have han' : (a : Int) < (jns.length : Int) := by omega
            obtain ⟨b7, off7, rfl, e7⟩ := (HVJ.out.a.keep HB.out).str han
            have hne : jns[a] ≠ ns[i] := fun h => hit ⟨han, h⟩
            generalize ns[i] = nm at *
            generalize jns[a] = jm at *
            have hne2 : (jm.toList == nm.toList) = false := str_ne hne
            clear hit hmu hne
            cases mu
            · have HQ2 : Hid (Q ↔ MemAt (FitD n) ns ms kids jns jkids (i + 1) a) := by
                show _ ↔ _
                rw [HQ.out, HMISS.out]
                exact ⟨fun h => h.2, fun h => ⟨rfl, h⟩⟩
              clear HQ HMISS
              go_wp2
              go_roundw
              case rel => exact ⟨a, i + 1, rfl, by go_num, by omega, by omega, HQ2, HB⟩
              case measure => simp [intOf]; omega
            · have HF : Hid (¬ Q) := fun h => by have := (HMISS.out.1 (HQ.out.1 h)).1; cases this
              go_wp2
              go_ret
              exact ⟨false, rfl, iffF HF.out, HBX.out.trans (HB.out.mono HBX.out.size)⟩
          · have han' : ¬ (a : Int) < (jns.length : Int) := by omega
            clear hit hmu
            cases mu
            · have HQ2 : Hid (Q ↔ MemAt (FitD n) ns ms kids jns jkids (i + 1) a) := by
                show _ ↔ _
                rw [HQ.out, HMISS.out]
                exact ⟨fun h => h.2, fun h => ⟨rfl, h⟩⟩
              clear HQ HMISS
              go_wp2
              go_roundw
              case rel => exact ⟨a, i + 1, rfl, by go_num, by omega, by omega, HQ2, HB⟩
              case measure => simp [intOf]; omega
            · have HF : Hid (¬ Q) := fun h => by have := (HMISS.out.1 (HQ.out.1 h)).1; cases this
              go_wp2
              go_ret
              exact ⟨false, rfl, iffF HF.out, HBX.out.trans (HB.out.mono HBX.out.size)⟩
      · have hin' : ¬ (i : Int) < (ns.length : Int) := by omega
        have HEND := Lib.hid (memAt_end (R := FitD n) HE.out.1 HE.out.2.1 HE.out.2.2 (by omega : ns.length ≤ i) ha)
        go_wp2
        go_ret
        refine ⟨_, rfl, ?_, HBX.out.trans (HB.out.mono HBX.out.size)⟩
        rw [HQ.out, HEND.out, beq_iff_eq]
        omega
  · have e' : (jk != 6) = true := by simp [e]
    have HF : Hid (¬ Q) := fun h => e (HQ.out.1 h).1
    clear e
    go_wp2
    go_ret
    exact ⟨false, rfl, iffF HF.out, HBX.out⟩

end Go.Proofs.YtkhcappjhefkjaaGreatDoor

