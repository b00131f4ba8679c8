/- impl.GramOk. -/
import Derived.Test.YtjfohdalpjoaeaaDoorP17
import Derived.Test.YtjfohdalpjoaeaaDoorP18
namespace Go.Proofs.YtjfohdalpjoaeaaDoor
open Go.RowKit
set_option linter.unusedVariables false

theorem ruleIndex_lit (rs : List Ru) (t : ByteArray) (r : Int) (hx : RuleIx rs t r) (a : Option Addr) (c B0 : Nat) (w : World) (hr : Rus w B0 a rs) (hm : rs.length ≤ 1048576) :
    Calls Tryd.prog 22 #[.slice a rs.length c, .string t] w fun e w' => e = .returned (.int .i64 r) ∧ Below w.heap.size w w' :=
  (ruleIndex_any rs t a c B0 w hr hm).mono fun e w' ⟨s, he, hs, hb⟩ => ⟨by rw [he, hs.one hx], hb⟩

set_option maxRecDepth 100000 in
set_option maxHeartbeats 4000000 in
theorem implGramOk_any (rs : List Ru) (a : Option Addr) (c B1 : Nat) (w : World) (hr : Rus w B1 a rs) (hm : rs.length ≤ 1048576) (hl : LimR 1048576 rs) :
    Calls Tryd.prog 7 #[.agg #[.slice a rs.length c]] w (BoolPost (GramP rs) w) := by
  have HR := Lib.hid hr
  have HL := Lib.hid hl
  have HBX : Hid (Below w.heap.size w (w.alloc (.cells #[.slice a rs.length c] 25))) := below_box _
  clear hr hl
  by_cases r1 : rs.length < 1
  · have r1' : (rs.length : Int) < 1 := by omega
    have H := Lib.hid r1
    go_enter Tryd.func7, Tryd.ntmps7
    go_wp2
    go_ret
    exact ⟨false, rfl, iffF (fun h => by have := h.1; have := H.out; omega), HBX.out⟩
  by_cases r2 : 24 < rs.length
  · have r1' : ¬ (rs.length : Int) < 1 := by omega
    have r2' : (24 : Int) < (rs.length : Int) := by omega
    have H := Lib.hid r2
    go_enter Tryd.func7, Tryd.ntmps7
    go_wp2
    go_ret
    exact ⟨false, rfl, iffF (fun h => by have := h.2.1; have := H.out; omega), HBX.out⟩
  have r1' : ¬ (rs.length : Int) < 1 := by omega
  have r2' : ¬ (24 : Int) < (rs.length : Int) := by omega
  have OB : Hid (Own ((w.alloc (.cells #[.slice a rs.length c] 25)).alloc (.cells #[.slice a rs.length c, .int .i64 160] 54)) w.heap.size 25 [.slice a rs.length c]) := (Own.new w 25 #[.slice a rs.length c]).alloc _
  have OG : Hid (Own ((w.alloc (.cells #[.slice a rs.length c] 25)).alloc (.cells #[.slice a rs.length c, .int .i64 160] 54)) (w.heap.size + 1) 54 [.slice a rs.length c, .int .i64 160]) := by
    have h := Own.new (w.alloc (.cells #[.slice a rs.length c] 25)) 54 #[.slice a rs.length c, .int .i64 160]
    rw [World.size_alloc] at h
    exact h
  have HBB : Hid (Below w.heap.size w ((w.alloc (.cells #[.slice a rs.length c] 25)).alloc (.cells #[.slice a rs.length c, .int .i64 160] 54))) := (below_box _).alloc (by simp) _
  clear HBX
  go_enter Tryd.func7, Tryd.ntmps7
  go_wp2
  generalize (w.alloc (.cells #[.slice a rs.length c] 25)).alloc (.cells #[.slice a rs.length c, .int .i64 160] 54) = W0 at *
  go_loopw [22] (fun i wr => ∃ j : Nat, j ≤ rs.length ∧ i = .int .i64 j ∧ Hid (∀ u (h : u < rs.length), u < j → RuleP rs u rs[u]) ∧ Hid (Own wr (w.heap.size + 1) 54 [.slice a rs.length c, .int .i64 (160 - (nodesL ((parts rs).take j) : Int))]) ∧ Hid ((nodesL ((parts rs).take j) : Int) ≤ 160) ∧ Hid (Exc (w.heap.size + 1) W0 wr)) (fun i _ => rs.length - (intOf i).toNat)
  case atStart => exact ⟨0, Nat.zero_le _, rfl, fun u _ hu => by omega, by show Own _ _ _ _; simpa [nodesL] using OG.out, by show _ ≤ _; simp [nodesL], Exc.of_below (Below.refl _ _) (Nat.le_of_lt OG.out.lt)⟩
  case round =>
    obtain ⟨j, hj, rfl, HU, HOJ, HLE, HX⟩ := hrel
    have HBW : Hid (Below w.heap.size w wr) := HX.out.base HBB.out (by omega)
    have OBR := HX.out.own OB.out (by omega)
    have g0 : wr.cell? ⟨w.heap.size, 0, none⟩ = some (.slice a rs.length c) := by rw [OBR.cell]; rfl
    have gl := OBR.lt
    have gl2 := HOJ.out.lt
    clear OBR
    by_cases hlt : j < rs.length
    · have hlt' : (j : Int) < (rs.length : Int) := by omega
      have hrl : Rus wr B1 a rs := HR.out.keep HBW.out
      have HRL := Lib.hid hrl
      have hr0 := HR.out
      obtain ⟨b, off, rfl, hn⟩ := hrl.at_ hlt
      obtain ⟨b', off', e', hn'⟩ := hr0.at_ hlt
      injection e' with e'
      injection e' with e1 e2
      subst e1 e2
      have n0 := hn.n
      have hp := hn.p
      have hp' := hn'.p
      have hlim := HL.out _ (List.getElem_mem hlt)
      have HNO : Hid (GramP rs → RuleP rs j rs[j] ∧ (rs[j].p.nodes : Int) ≤ 160 - (nodesL ((parts rs).take j) : Int)) := fun h => by
        refine ⟨h.2.2.1 j hlt, ?_⟩
        have h3 := nodesL_le (parts rs) (j + 1)
        rw [parts_take hlt] at h3
        have := h.2.2.2
        omega
      have HU2 : Hid (RuleP rs j rs[j] → ∀ u (h : u < rs.length), u < j + 1 → RuleP rs u rs[u]) := fun h1 u hu huj => by
        rcases Nat.lt_succ_iff_lt_or_eq.1 huj with h3 | h3
        · exact HU.out u hu h3
        · subst h3; exact h1
      have HT := Lib.hid (parts_take hlt)
      generalize rs[j] = rj at *
      obtain ⟨nm, p⟩ := rj
      obtain ⟨pk, pt, plo, phi, pkids, pmn, pmx⟩ := p
      simp only at n0 hp hp' hlim HT
      rw [nodes_mk] at HT
      replace HNO : Hid (GramP rs → NameP nm ∧ RuleIx rs nm j ∧ (htL pkids + 1 ≤ 8 ∧ OkP rs (.mk pk pt plo phi pkids pmn pmx)) ∧ ((nodesL pkids + 1 : Nat) : Int) ≤ 160 - (nodesL ((parts rs).take j) : Int)) := fun h => by
        obtain ⟨⟨h1, h2, h3, h4⟩, h5⟩ := HNO.out h
        simp only [ht_mk, nodes_mk] at h1 h2 h3 h4 h5
        exact ⟨h1, h2, ⟨h3, h4⟩, h5⟩
      replace HU2 : Hid (NameP nm ∧ RuleIx rs nm j ∧ (htL pkids + 1 ≤ 8 ∧ OkP rs (.mk pk pt plo phi pkids pmn pmx)) → ∀ u (h : u < rs.length), u < j + 1 → RuleP rs u rs[u]) := fun ⟨h1, h2, h3⟩ => HU2.out ⟨h1, h2, by rw [ht_mk]; exact h3.1, h3.2⟩
      obtain ⟨hnl, hlp⟩ := hlim
      obtain ⟨PA, PB, PK, pa, pb, pc, hc, hv⟩ := hp.open_
      obtain ⟨PA', PB', PK', pa', pb', pc', hc', hv'⟩ := hp'.open_
      have hvk : PtV w B1 plo phi pkids PA PB PK := by
        have e2 := (cell_keep HBW.out hc'.c2).symm.trans hc.c2
        have e3 := (cell_keep HBW.out hc'.c3).symm.trans hc.c3
        have e4 := (cell_keep HBW.out hc'.c4).symm.trans hc.c4
        injection e2 with e2; injection e2 with e2 _ _
        injection e3 with e3; injection e3 with e3 _ _
        injection e4 with e4; injection e4 with e4 _ _
        subst e2 e3 e4
        exact hv'
      obtain ⟨c0, c1, c2, c3, c4, c5, c6⟩ := hc
      obtain ⟨r, hrx⟩ := RuleIx.ex rs nm
      have HRX := Lib.hid hrx
      have HVK := Lib.hid hvk
      have HLP := Lib.hid hlp
      have hle := HLE.out
      generalize nodesL ((parts rs).take j) = x at *
      have hbx : Below wr.heap.size wr (wr.alloc (.cells #[.string nm, .int .i64 pk, .string pt, .slice PA plo.length pa, .slice PB phi.length pb, .slice PK pkids.length pc, .int .i64 pmn, .int .i64 pmx] 33)) := below_box _
      have OV : Own (wr.alloc (.cells #[.string nm, .int .i64 pk, .string pt, .slice PA plo.length pa, .slice PB phi.length pb, .slice PK pkids.length pc, .int .i64 pmn, .int .i64 pmx] 33)) wr.heap.size 33 [.string nm, .int .i64 pk, .string pt, .slice PA plo.length pa, .slice PB phi.length pb, .slice PK pkids.length pc, .int .i64 pmn, .int .i64 pmx] := Own.new wr 33 #[.string nm, .int .i64 pk, .string pt, .slice PA plo.length pa, .slice PB phi.length pb, .slice PK pkids.length pc, .int .i64 pmn, .int .i64 pmx]
      have HC1 := Lib.hid (isName_any nm (wr.alloc (.cells #[.string nm, .int .i64 pk, .string pt, .slice PA plo.length pa, .slice PB phi.length pb, .slice PK pkids.length pc, .int .i64 pmn, .int .i64 pmx] 33)) hnl)
      have HOV := Lib.hid OV
      have HBV := Lib.hid hbx
      clear hn hn' hp hp' hv hv' hc' hvk hlp hrx OV hbx HU HLE
      go_wp2_with fail
      generalize wr.alloc (.cells #[.string nm, .int .i64 pk, .string pt, .slice PA plo.length pa, .slice PB phi.length pb, .slice PK pkids.length pc, .int .i64 pmn, .int .i64 pmx] 33) = w1 at *
      have zv := HOV.out.lt
      refine HC1.out.mono ?_
      rintro e w2 ⟨q1, rfl, h1, hb2⟩
      have HQ1 := Lib.hid h1
      have HB2 : Hid (Below wr.heap.size wr w2) := HBV.out.trans (hb2.mono HBV.out.size)
      clear h1 HC1 c0 c1 c2 c3 c4 c5 c6 n0
      cases q1
      · have HNR : Hid (¬ GramP rs) := fun h => by have := HQ1.out.2 (HNO.out h).1; cases this
        have HBF := Lib.hid (HBW.out.trans (HB2.out.mono HBW.out.size))
        go_wp2
        go_ret
        exact ⟨false, rfl, iffF HNR.out, HBF.out⟩
      have OV2 := HOV.out.keep hb2
      have v0 : w2.cell? ⟨wr.heap.size, 0, none⟩ = some (.string nm) := by rw [OV2.cell]; rfl
      have g2 := cell_keep HB2.out g0
      have HC2 := Lib.hid (ruleIndex_lit rs nm r HRX.out (some ⟨b, off, none⟩) c B1 w2 (HRL.out.keep HB2.out) hm)
      have zv2 := OV2.lt
      have zw2 := HB2.out.size
      have HOV2 := Lib.hid OV2
      clear hb2 OV2 HOV
      go_wp2_with fail
      refine HC2.out.mono ?_
      rintro e w3 ⟨rfl, hb3⟩
      have HB3 : Hid (Below wr.heap.size wr w3) := HB2.out.trans (hb3.mono zw2)
      have OV3 := HOV2.out.keep hb3
      have zw3 : w2.heap.size ≤ w3.heap.size := hb3.size
      clear hb3 v0 g2 HC2 HOV2
      by_cases q2 : r = j
      · subst q2
        have e2 : ((j : Int) != (j : Int)) = false := by simp
        have v1 : w3.cell? ⟨wr.heap.size, 1, none⟩ = some (.int .i64 pk) := by rw [OV3.cell]; rfl
        have v2 : w3.cell? ⟨wr.heap.size, 1 + 1, none⟩ = some (.string pt) := by rw [OV3.cell]; rfl
        have v3 : w3.cell? ⟨wr.heap.size, 1 + 2, none⟩ = some (.slice PA plo.length pa) := by rw [OV3.cell]; rfl
        have v4 : w3.cell? ⟨wr.heap.size, 1 + 3, none⟩ = some (.slice PB phi.length pb) := by rw [OV3.cell]; rfl
        have v5 : w3.cell? ⟨wr.heap.size, 1 + 4, none⟩ = some (.slice PK pkids.length pc) := by rw [OV3.cell]; rfl
        have v6 : w3.cell? ⟨wr.heap.size, 1 + 5, none⟩ = some (.int .i64 pmn) := by rw [OV3.cell]; rfl
        have v7 : w3.cell? ⟨wr.heap.size, 1 + 6, none⟩ = some (.int .i64 pmx) := by rw [OV3.cell]; rfl
        have zv3 := OV3.lt
        have HC3 := Lib.hid (fit_all 8 (by omega) rs pk pt plo phi pkids pmn pmx (some ⟨b, off, none⟩) PA PB PK c pa pb pc B1 B1 (w.heap.size + 1) (160 - (x : Int)) 1 w w3 HR.out hm HVK.out HLP.out (HBW.out.trans (HB3.out.mono HBW.out.size)) (by omega) (HOJ.out.keep HB3.out) (by omega) (by omega) (by omega))
        have HX3 := Lib.hid (HX.out.trans (Exc.of_below (g := w.heap.size + 1) HB3.out (by omega)))
        clear OV3
        go_wp2_with fail
        refine HC3.out.mono ?_
        rintro e w4 ⟨q3, L', rfl, p1, p2, p3, p4⟩
        have P1 := Lib.hid p1
        have P2 := Lib.hid p2
        have P3 := Lib.hid p3
        have P4 := Lib.hid (HX3.out.trans p4)
        clear p1 p2 p3 p4 HC3 HX3 v1 v2 v3 v4 v5 v6 v7 g0
        simp only [Bool.false_eq_true, if_false]
        cases q3
        · have HNR : Hid (¬ GramP rs) := fun h => by have := P1.out.2 (HNO.out h).2.2; cases this
          have HBF := Lib.hid (P4.out.base HBB.out (by omega))
          go_wp2
          go_ret
          exact ⟨false, rfl, iffF HNR.out, HBF.out⟩
        · have hq := P1.out.1 rfl
          have HU3 := Lib.hid (HU2.out ⟨(by first | exact HQ1.out.1 rfl | exact HQ1.out.1 trivial), HRX.out, hq.1⟩)
          have HL' := Lib.hid (P2.out rfl)
          have HQ2 := Lib.hid hq.2
          clear hq HU2 HNO
          go_wp2
          go_roundw
          case rel =>
            refine ⟨j + 1, by omega, by go_num, HU3, ?_, ?_, P4⟩
            · show Own _ _ _ _
              rw [HT.out]
              have e := P3.out
              rw [HL'.out] at e
              have e2 : (160 : Int) - ((x + (nodesL pkids + 1) : Nat) : Int) = 160 - (x : Int) - ((nodesL pkids + 1 : Nat) : Int) := by omega
              rw [e2]; exact e
            · show _ ≤ _
              rw [HT.out]
              have := HQ2.out
              omega
          case measure => simp [intOf]; omega
      · have e2 : (r != (j : Int)) = true := by simp [q2]
        have HNR : Hid (¬ GramP rs) := fun h => q2 (HRX.out.one (HNO.out h).2.1)
        have HBF := Lib.hid (HBW.out.trans (HB3.out.mono HBW.out.size))
        clear q2
        go_wp2
        go_ret
        exact ⟨false, rfl, iffF HNR.out, HBF.out⟩
    · have hlt' : ¬ (j : Int) < (rs.length : Int) := by omega
      obtain rfl : j = rs.length := by omega
      have hpl : (parts rs).take rs.length = parts rs := List.take_of_length_le (by simp [parts])
      rw [hpl] at HLE
      have HG : Hid (GramP rs) := ⟨by omega, by omega, fun i hi => HU.out i hi hi, by have := HLE.out; omega⟩
      clear hpl
      go_wp2
      go_ret
      exact ⟨true, rfl, iffT HG.out, HBW.out⟩

end Go.Proofs.YtjfohdalpjoaeaaDoor
