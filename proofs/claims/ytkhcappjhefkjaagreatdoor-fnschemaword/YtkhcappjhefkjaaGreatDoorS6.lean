/- The specification's l32Form, SchemaOk. (written by gen_s6.py) -/
import Derived.Test.YtkhcappjhefkjaaGreatDoorQ4
import Derived.Deep.DeepCutAuto
namespace Go.Proofs.YtkhcappjhefkjaaGreatDoor
open Go.RowKit
set_option linter.unusedVariables false

theorem c6_get {w : World} {P : Nat} {k mn mx : Int} {A M K : Option Addr} {la ca lm ma lk kc : Nat} (h : Own w P 31 (c6 k mn mx A la ca M lm ma K lk kc)) :
    w.cell? ⟨P, 0, none⟩ = some (.int .i64 k) ∧ w.cell? ⟨P, 1, none⟩ = some (.int .i64 mn) ∧ w.cell? ⟨P, 2, none⟩ = some (.int .i64 mx) ∧ w.cell? ⟨P, 3, none⟩ = some (.slice A la ca) ∧ w.cell? ⟨P, 4, none⟩ = some (.slice M lm ma) ∧ w.cell? ⟨P, 5, none⟩ = some (.slice K lk kc) :=
  ⟨by rw [h.cell]; rfl, by rw [h.cell]; rfl, by rw [h.cell]; rfl, by rw [h.cell]; rfl, by rw [h.cell]; rfl, by rw [h.cell]; rfl⟩

set_option maxHeartbeats 400000 in
theorem l6In_any (x lo hi : Int) (w : World) : Calls Tryz.prog 70 #[.int .i64 x, .int .i64 lo, .int .i64 hi] w (fun e w' => e = .returned (.bool (inB x lo hi)) ∧ w' = w) := by
  by_cases h1 : lo ≤ x
  · by_cases h2 : x ≤ hi
    · have e : inB x lo hi = true := inB_iff.2 ⟨h1, h2⟩
      rw [e]
      clear e
      go_enter Tryz.func70, Tryz.ntmps70
      go_wp2
      go_ret
      exact ⟨rfl, rfl⟩
    · have e : inB x lo hi = false := by rw [Bool.eq_false_iff]; intro h; exact h2 (inB_iff.1 h).2
      rw [e]
      clear e
      go_enter Tryz.func70, Tryz.ntmps70
      go_wp2
      go_ret
      exact ⟨rfl, rfl⟩
  · have e : inB x lo hi = false := by rw [Bool.eq_false_iff]; intro h; exact h1 (inB_iff.1 h).1
    rw [e]
    clear e
    go_enter Tryz.func70, Tryz.ntmps70
    go_wp2
    go_ret
    exact ⟨rfl, rfl⟩

/-- The numbers of a schema are those of its kind. -/
def BareS (k mn mx : Int) : Prop := (k ≠ 4 → k ≠ 5 → mn = 0 ∧ mx = 0) ∧ 0 ≤ mn ∧ 0 ≤ mx
theorem bare_of_one {k mn mx : Int} {ns : List ByteArray} {ms : List Bool} {kids : List Sc} (h : SoneP k mn mx ns ms kids) : BareS k mn mx := by
  unfold SoneP SpanP at h
  unfold BareS
  rcases h with h | h | h | h | h | h <;> exact ⟨fun _ _ => by omega, by omega, by omega⟩
theorem wrap_sum {a b : Int} (ha : I64 a) (hb : I64 b) (h0 : 0 ≤ a) (h1 : 0 ≤ b) (h : wrap64 (a + b) = 0) : a = 0 ∧ b = 0 := by
  obtain ⟨_, ha⟩ := ha
  obtain ⟨_, hb⟩ := hb
  unfold wrap64 at h
  omega

def FoS (n : Nat) : Prop := ∀ (k mn mx : Int) (ns : List ByteArray) (ms : List Bool) (kids : List Sc) (A M K : Option Addr) (ca ma kc B0 : Nat) (w : World), htS kids + 1 ≤ n → ScV w B0 ns ms kids A M K → LimS 1048576 (.mk k mn mx ns ms kids) →
  Calls Tryz.prog 38 #[.agg #[.int .i64 k, .int .i64 mn, .int .i64 mx, .slice A ns.length ca, .slice M ms.length ma, .slice K kids.length kc]] w (BoolPost (SokP (.mk k mn mx ns ms kids)) w)

set_option maxRecDepth 100000 in
set_option maxHeartbeats 8000000 in
theorem formS {n : Nat} (IH : FoS n) : FoS (n + 1) := by
  intro k mn mx ns ms kids A M K ca ma kc B0 w hh hv hl
  have HI := Lib.hid IH
  cases hl with
  | mk _ _ _ _ _ _ l2 l3 lm l4 l5 lb =>
  have HL5 := Lib.hid l5
  have HL3 := Lib.hid l3
  have LB := Lib.hid lb
  have HH := Lib.hid hh
  clear IH l5 l3 lb hh
  obtain ⟨Q, hQ⟩ : ∃ Q : Prop, Q ↔ SokP (.mk k mn mx ns ms kids) := ⟨_, Iff.rfl⟩
  rw [show SokP (.mk k mn mx ns ms kids) = Q from (propext hQ).symm]
  have HQ := Lib.hid (hQ.trans sok_iff)
  clear hQ
  obtain ⟨W0, hW0⟩ : ∃ W0, w.alloc (.cells #[.int .i64 k, .int .i64 mn, .int .i64 mx, .slice A ns.length ca, .slice M ms.length ma, .slice K kids.length kc] 31) = W0 := ⟨_, rfl⟩
  have HBX : Hid (Below w.heap.size w W0) := by rw [← hW0]; exact below_box _
  have HO : Hid (Own W0 w.heap.size 31 (c6 k mn mx A ns.length ca M ms.length ma K kids.length kc)) := by rw [← hW0]; exact Own.new w 31 #[.int .i64 k, .int .i64 mn, .int .i64 mx, .slice A ns.length ca, .slice M ms.length ma, .slice K kids.length kc]
  have HV := Lib.hid (hv.keep HBX.out)
  have HW := Lib.hid hW0
  clear hv hW0
  go_enter Tryz.func38, Tryz.ntmps38
  go_upto_region 1 with fail
  rw [HW.out]
  clear HW
  go_wp2
  go_loopw [3] (fun i wr => ∃ j : Nat, j ≤ kids.length ∧ i = .int .i64 j ∧ Hid (∀ u (h : u < kids.length), u < j → SokP kids[u]) ∧ Hid (Below W0.heap.size W0 wr)) (fun i _ => kids.length - (intOf i).toNat)
  case atStart => exact ⟨0, Nat.zero_le _, rfl, fun u _ hu => by omega, Below.refl _ _⟩
  case round =>
    obtain ⟨j, hj, rfl, HU, HBR⟩ := hrel
    have HOR := Lib.hid (HO.out.keep HBR.out)
    obtain ⟨p0, p1, p2, p3, p4, p5⟩ := c6_get HOR.out
    have pl := HOR.out.lt
    by_cases hlt : j < kids.length
    · have hlt' : (j : Int) < (kids.length : Int) := by omega
      obtain ⟨b, off, rfl, hp⟩ := (HV.out.k.keep HBR.out).at_ hlt
      have hmem := List.getElem_mem hlt
      have hlim := HL5.out _ hmem
      have hht := htS_mem hmem
      have HUJ : Hid (SokP kids[j] → ∀ u (h : u < kids.length), u < j + 1 → SokP kids[u]) := fun h1 u hu huj => by
        rcases Nat.lt_succ_iff_lt_or_eq.1 huj with h3 | h3
        · exact HU.out u hu h3
        · subst h3; exact h1
      have HNO : Hid (Q → SokP kids[j]) := fun h => (HQ.out.1 h).2 _ hmem
      clear hmem
      generalize kids[j] = p at *
      obtain ⟨pk, pmn, pmx, pns, pms, pkids⟩ := p
      rw [htS_mk] at hht
      obtain ⟨PA, PM, PK, pa, pm, pc, hc, hv⟩ := hp.open_
      obtain ⟨c0, c1, c2, c3, c4, c5, cle⟩ := hc
      have HC := Lib.hid (HI.out pk pmn pmx pns pms pkids PA PM PK pa pm pc B0 wr (by have := HH.out; omega) hv hlim)
      clear hp hv hlim hht cle
      go_wp2_with fail
      refine HC.out.mono ?_
      rintro e w2 ⟨r, rfl, h1, hb2⟩
      have HB2 := Lib.hid (HBR.out.trans (hb2.mono HBR.out.size))
      have H1 := Lib.hid h1
      clear p0 p1 p2 p3 p4 p5 pl c0 c1 c2 c3 c4 c5 h1 hb2 HC HBR HOR
      cases r
      · go_wp2
        go_ret
        exact ⟨false, rfl, iffF (fun h => by have := H1.out.2 (HNO.out h); cases this), HBX.out.trans (HB2.out.mono HBX.out.size)⟩
      · have HU2 := Lib.hid (HUJ.out (H1.out.1 rfl))
        clear HU HUJ HNO H1
        go_wp2
        go_roundw
        case rel => exact ⟨j + 1, by omega, by go_num, HU2, HB2⟩
        case measure => simp [intOf]; omega
    · have hlt' : ¬ (j : Int) < (kids.length : Int) := by omega
      have HK : Hid (∀ p ∈ kids, SokP p) := fun p hp => by
        obtain ⟨u, hu, rfl⟩ := List.getElem_of_mem hp
        exact HU.out u hu (by omega)
      have HQ1 : Hid (Q ↔ SoneP k mn mx ns ms kids) := ⟨fun h => (HQ.out.1 h).1, fun h => HQ.out.2 ⟨h, HK.out⟩⟩
      have HBW : Hid (Below w.heap.size w wr) := HBX.out.trans (HBR.out.mono HBX.out.size)
      have HVR := Lib.hid (HV.out.keep HBR.out)
      obtain ⟨sp, hsp⟩ : ∃ sp : Bool, sp = true ↔ SpanP mn mx := by
        by_cases h : SpanP mn mx
        · exact ⟨true, fun _ => h, fun _ => rfl⟩
        · exact ⟨false, (fun h => by cases h), fun h' => absurd h' h⟩
      have HSP := Lib.hid hsp
      clear hlt hj HU HK HQ hsp HI HV HBR HBX HO
      go_upto_region 6 with fail
      go_cut [4] (fun c wx => c = .bool sp ∧ wx = wr)
      case first =>
        go_wp2_with fail
        refine (l6In_any mn 0 6 wr).mono ?_
        rintro e w2 ⟨rfl, rfl⟩
        obtain ⟨b1, hb1⟩ : ∃ b, inB mn 0 6 = b := ⟨_, rfl⟩
        rw [hb1]
        have HB1 := Lib.hid hb1
        clear hb1
        cases b1
        · have hs : sp = false := by
            rw [Bool.eq_false_iff]; intro h
            obtain ⟨q1, q2, q3⟩ := HSP.out.1 h
            have := inB_iff.2 (⟨q1, by omega⟩ : 0 ≤ mn ∧ mn ≤ 6)
            rw [HB1.out] at this; cases this
          subst hs
          go_wp2
          go_meet
          exact ⟨rfl, rfl⟩
        · go_wp2_with fail
          refine (l6In_any mx mn 6 _).mono ?_
          rintro e w2 ⟨rfl, rfl⟩
          have hs : inB mx mn 6 = sp := by
            have h1 := inB_iff.1 HB1.out
            rw [Bool.eq_iff_iff, inB_iff, HSP.out]
            exact ⟨fun h => ⟨h1.1, h.1, h.2⟩, fun h => ⟨h.2.1, h.2.2⟩⟩
          rw [hs]
          clear hs
          go_wp2
          go_meet
          exact ⟨rfl, rfl⟩
      case rest =>
        obtain ⟨rfl, hwc⟩ := hcut
        rw [hwc]
        clear hwc
        obtain ⟨bad, hbad⟩ : ∃ bad : Bool, bad = false ↔ BareS k mn mx := by
          by_cases h : BareS k mn mx
          · exact ⟨false, fun _ => h, fun _ => rfl⟩
          · exact ⟨true, (fun h => by cases h), fun h' => absurd h' h⟩
        have HBAD := Lib.hid hbad
        clear hbad
        have HT : Hid (¬ BareS k mn mx → bad = true) := fun h => by
          cases bad
          · exact absurd (HBAD.out.1 rfl) h
          · rfl
        go_upto_region 7 with fail
        go_cut [54] (fun c wx => c = .bool bad ∧ wx = wr)
        case first =>
          by_cases k4 : k = 4
          · subst k4
            by_cases m0 : mn < 0
            · skip
              obtain rfl : bad = true := HT.out (fun h => by have := h.2.1; omega)
              clear HT HBAD
              go_wp2
              go_meet
              exact ⟨rfl, rfl⟩
            · by_cases x0 : mx < 0
              · obtain rfl : bad = true := HT.out (fun h => by have := h.2.2; omega)
                clear HT HBAD
                go_wp2
                go_meet
                exact ⟨rfl, rfl⟩
              · obtain rfl : bad = false := HBAD.out.2 ⟨fun h4 h5 => absurd rfl h4, by omega, by omega⟩
                clear HT HBAD
                go_wp2
                go_meet
                exact ⟨rfl, rfl⟩
          · have e4 : (k != 4) = true := by simp [k4]
            by_cases k5 : k = 5
            · subst k5
              by_cases m0 : mn < 0
              · skip
                obtain rfl : bad = true := HT.out (fun h => by have := h.2.1; omega)
                clear HT HBAD
                go_wp2
                go_meet
                exact ⟨rfl, rfl⟩
              · by_cases x0 : mx < 0
                · obtain rfl : bad = true := HT.out (fun h => by have := h.2.2; omega)
                  clear HT HBAD
                  go_wp2
                  go_meet
                  exact ⟨rfl, rfl⟩
                · obtain rfl : bad = false := HBAD.out.2 ⟨fun h4 h5 => absurd rfl h5, by omega, by omega⟩
                  clear HT HBAD
                  go_wp2
                  go_meet
                  exact ⟨rfl, rfl⟩
            · have e5 : (k != 5) = true := by simp [k5]
              by_cases s0 : wrap64 (mn + mx) = 0
              · have es : (wrap64 (mn + mx) != 0) = false := by simp [s0]
                have HS0 := Lib.hid s0
                by_cases m0 : mn < 0
                · skip
                  obtain rfl : bad = true := HT.out (fun h => by have := h.2.1; omega)
                  clear HT HBAD
                  go_wp2
                  go_meet
                  exact ⟨rfl, rfl⟩
                · by_cases x0 : mx < 0
                  · obtain rfl : bad = true := HT.out (fun h => by have := h.2.2; omega)
                    clear HT HBAD
                    go_wp2
                    go_meet
                    exact ⟨rfl, rfl⟩
                  · obtain rfl : bad = false := HBAD.out.2 ⟨fun h4 h5 => wrap_sum LB.out.1 LB.out.2 (by omega) (by omega) HS0.out, by omega, by omega⟩
                    clear HT HBAD
                    go_wp2
                    go_meet
                    exact ⟨rfl, rfl⟩
              · have es : (wrap64 (mn + mx) != 0) = true := by simp [s0]
                obtain rfl : bad = true := HT.out (fun h => by have := h.1 k4 k5; apply s0; rw [this.1, this.2]; unfold wrap64; omega)
                clear HT HBAD
                go_wp2
                go_meet
                exact ⟨rfl, rfl⟩
        case rest =>
          obtain ⟨rfl, hwc⟩ := hcut
          rw [hwc]
          clear hwc
          cases bad
          · have hbare := HBAD.out.1 rfl
            have HBARE := Lib.hid hbare
            clear hbare HT HBAD
            by_cases k1 : k = 1
            · subst k1
              go_wp2
              go_ret
              refine ⟨_, rfl, ?_, HBW.out⟩
              rw [HQ1.out, beq_iff_eq]
              unfold SoneP
              have hb := HBARE.out.1 (by omega) (by omega)
              constructor
              · intro h; exact .inl ⟨by omega, by omega, by omega, by omega, by omega, by omega⟩
              · intro h; rcases h with h | h | h | h | h | h <;> omega
            have e1 : (k == 1) = false := by simp [k1]
            by_cases k2 : k = 2
            · subst k2
              go_wp2
              go_ret
              refine ⟨_, rfl, ?_, HBW.out⟩
              rw [HQ1.out, beq_iff_eq]
              unfold SoneP
              have hb := HBARE.out.1 (by omega) (by omega)
              constructor
              · intro h; exact .inl ⟨by omega, by omega, by omega, by omega, by omega, by omega⟩
              · intro h; rcases h with h | h | h | h | h | h <;> omega
            have e2 : (k == 2) = false := by simp [k2]
            by_cases k3 : k = 3
            · subst k3
              go_wp2
              go_ret
              refine ⟨_, rfl, ?_, HBW.out⟩
              rw [HQ1.out, beq_iff_eq]
              unfold SoneP
              have hb := HBARE.out.1 (by omega) (by omega)
              constructor
              · intro h; exact .inl ⟨by omega, by omega, by omega, by omega, by omega, by omega⟩
              · intro h; rcases h with h | h | h | h | h | h <;> omega
            have e3 : (k == 3) = false := by simp [k3]
            by_cases k4 : k = 4
            · subst k4
              clear k1 k2 k3
              cases sp
              · have HF : Hid (¬ Q) := fun h => by
                  have h := HQ1.out.1 h
                  have hn : ¬ SpanP mn mx := fun h => by have := HSP.out.2 h; cases this
                  unfold SoneP at h
                  rcases h with h | h | h | h | h | h
                  · omega
                  · exact hn h.2.1
                  · omega
                  · omega
                  · omega
                  · omega
                go_wp2
                go_ret
                exact ⟨false, rfl, iffF HF.out, HBW.out⟩
              · go_wp2
                go_ret
                refine ⟨_, rfl, ?_, HBW.out⟩
                rw [HQ1.out, beq_iff_eq]
                unfold SoneP
                constructor
                · intro h; exact .inr (.inl ⟨rfl, HSP.out.1 (by first | rfl | trivial), by omega, by omega, by omega⟩)
                · intro h; rcases h with h | h | h | h | h | h <;> omega
            have e4 : (k == 4) = false := by simp [k4]
            by_cases k5 : k = 5
            · subst k5
              clear k1 k2 k3 k4
              cases sp
              · have HF : Hid (¬ Q) := fun h => by
                  have h := HQ1.out.1 h
                  have hn : ¬ SpanP mn mx := fun h => by have := HSP.out.2 h; cases this
                  unfold SoneP at h
                  rcases h with h | h | h | h | h | h
                  · omega
                  · omega
                  · exact hn h.2.1
                  · omega
                  · omega
                  · omega
                go_wp2
                go_ret
                exact ⟨false, rfl, iffF HF.out, HBW.out⟩
              · by_cases z : ns.length + ms.length = 0
                · have z' : ((ns.length : Int) + (ms.length : Int) == 0) = true := by rw [beq_iff_eq]; omega
                  have HZ := Lib.hid z
                  clear z
                  go_wp2
                  go_ret
                  refine ⟨_, rfl, ?_, HBW.out⟩
                  rw [HQ1.out, beq_iff_eq]
                  unfold SoneP
                  have := HZ.out
                  constructor
                  · intro h; exact .inr (.inr (.inl ⟨rfl, HSP.out.1 (by first | rfl | trivial), by omega, by omega, by omega⟩))
                  · intro h; rcases h with h | h | h | h | h | h <;> omega
                · have z' : ((ns.length : Int) + (ms.length : Int) == 0) = false := by rw [beq_eq_false_iff_ne]; omega
                  have HF : Hid (¬ Q) := fun h => by
                    have h := HQ1.out.1 h
                    unfold SoneP at h
                    rcases h with h | h | h | h | h | h <;> omega
                  clear z
                  go_wp2
                  go_ret
                  exact ⟨false, rfl, iffF HF.out, HBW.out⟩
            have e5 : (k == 5) = false := by simp [k5]
            by_cases k6 : k = 6
            · subst k6
              clear k1 k2 k3 k4 k5
              have hb := HBARE.out.1 (by omega) (by omega)
              by_cases z1 : ns.length = kids.length
              · have z1' : ((ns.length : Int) == (kids.length : Int)) = true := by rw [beq_iff_eq]; omega
                by_cases z2 : ms.length = kids.length
                · have z2' : ((ms.length : Int) == (kids.length : Int)) = true := by rw [beq_iff_eq]; omega
                  have HZ := Lib.hid (And.intro z1 z2)
                  have HB := Lib.hid hb
                  clear z1 z2 hb
                  go_wp2_with fail
                  refine (l31Names_any ns A ca _ HVR.out.a l2 HL3.out).mono ?_
                  rintro e w2 ⟨r, rfl, hr, hb2⟩
                  have HRR := Lib.hid hr
                  have HB2 := Lib.hid (HBW.out.trans (hb2.mono HBW.out.size))
                  clear hr hb2 p0 p1 p2 p3 p4 p5 pl
                  go_wp2
                  go_ret
                  refine ⟨r, rfl, ?_, HB2.out⟩
                  rw [HQ1.out, HRR.out]
                  unfold SoneP
                  constructor
                  · intro h; exact .inr (.inr (.inr (.inl ⟨rfl, HB.out.1, HB.out.2, HZ.out.1, HZ.out.2, h⟩)))
                  · intro h
                    rcases h with h | h | h | h | h | h
                    · omega
                    · omega
                    · omega
                    · exact h.2.2.2.2.2
                    · omega
                    · omega
                · have z2' : ((ms.length : Int) == (kids.length : Int)) = false := by rw [beq_eq_false_iff_ne]; omega
                  have HF : Hid (¬ Q) := fun h => by
                    have h := HQ1.out.1 h
                    unfold SoneP at h
                    rcases h with h | h | h | h | h | h <;> omega
                  clear z1 z2 hb
                  go_wp2
                  go_ret
                  exact ⟨false, rfl, iffF HF.out, HBW.out⟩
              · have z1' : ((ns.length : Int) == (kids.length : Int)) = false := by rw [beq_eq_false_iff_ne]; omega
                have HF : Hid (¬ Q) := fun h => by
                  have h := HQ1.out.1 h
                  unfold SoneP at h
                  rcases h with h | h | h | h | h | h <;> omega
                clear z1 hb
                go_wp2
                go_ret
                exact ⟨false, rfl, iffF HF.out, HBW.out⟩
            have e6 : (k == 6) = false := by simp [k6]
            by_cases k7 : k = 7
            · subst k7
              clear k1 k2 k3 k4 k5 k6
              have hb := HBARE.out.1 (by omega) (by omega)
              by_cases z : ns.length + ms.length = 0
              · have z' : ((ns.length : Int) + (ms.length : Int) == 0) = true := by rw [beq_iff_eq]; omega
                have HZ := Lib.hid z
                have HB := Lib.hid hb
                clear z hb
                by_cases y : 2 ≤ kids.length
                · have y' : (2 : Int) ≤ (kids.length : Int) := by omega
                  have HT : Hid Q := HQ1.out.2 (by
                    have h1 := HZ.out
                    have h2 := HB.out
                    unfold SoneP
                    exact .inr (.inr (.inr (.inr (.inl ⟨rfl, by omega, by omega, by omega, by omega, by omega⟩)))))
                  clear y
                  go_wp2
                  go_ret
                  exact ⟨true, rfl, iffT HT.out, HBW.out⟩
                · have y' : ¬ (2 : Int) ≤ (kids.length : Int) := by omega
                  have HF : Hid (¬ Q) := fun h => by
                    have h := HQ1.out.1 h
                    unfold SoneP at h
                    rcases h with h | h | h | h | h | h <;> omega
                  clear y
                  go_wp2
                  go_ret
                  exact ⟨false, rfl, iffF HF.out, HBW.out⟩
              · have z' : ((ns.length : Int) + (ms.length : Int) == 0) = false := by rw [beq_eq_false_iff_ne]; omega
                have HF : Hid (¬ Q) := fun h => by
                  have h := HQ1.out.1 h
                  unfold SoneP at h
                  rcases h with h | h | h | h | h | h <;> omega
                clear z hb
                go_wp2
                go_ret
                exact ⟨false, rfl, iffF HF.out, HBW.out⟩
            have e7 : (k == 7) = false := by simp [k7]
            by_cases k8 : k = 8
            · subst k8
              clear k1 k2 k3 k4 k5 k6 k7
              have hb := HBARE.out.1 (by omega) (by omega)
              by_cases z : ms.length + kids.length = 0
              · have z' : ((ms.length : Int) + (kids.length : Int) == 0) = true := by rw [beq_iff_eq]; omega
                have HZ := Lib.hid z
                have HB := Lib.hid hb
                clear z hb
                go_wp2_with fail
                refine (l32Texts_any ns A ca _ HVR.out.a l2 HL3.out).mono ?_
                rintro e w2 ⟨r, rfl, hr, hb2⟩
                have HRR := Lib.hid hr
                have HB2 := Lib.hid (HBW.out.trans (hb2.mono HBW.out.size))
                clear hr hb2 p0 p1 p2 p3 p4 p5 pl
                go_wp2
                go_ret
                refine ⟨r, rfl, ?_, HB2.out⟩
                rw [HQ1.out, HRR.out]
                unfold SoneP
                have h1 := HZ.out
                constructor
                · intro h; exact .inr (.inr (.inr (.inr (.inr ⟨rfl, HB.out.1, HB.out.2, by omega, by omega, h⟩))))
                · intro h
                  rcases h with h | h | h | h | h | h
                  · omega
                  · omega
                  · omega
                  · omega
                  · omega
                  · exact h.2.2.2.2.2
              · have z' : ((ms.length : Int) + (kids.length : Int) == 0) = false := by rw [beq_eq_false_iff_ne]; omega
                have HF : Hid (¬ Q) := fun h => by
                  have h := HQ1.out.1 h
                  unfold SoneP at h
                  rcases h with h | h | h | h | h | h <;> omega
                clear z hb
                go_wp2
                go_ret
                exact ⟨false, rfl, iffF HF.out, HBW.out⟩
            have e8 : (k == 8) = false := by simp [k8]
            have HF : Hid (¬ Q) := fun h => by
              have h := HQ1.out.1 h
              unfold SoneP at h
              rcases h with h | h | h | h | h | h <;> omega
            clear k1 k2 k3 k4 k5 k6 k7 k8
            go_wp2
            go_ret
            exact ⟨false, rfl, iffF HF.out, HBW.out⟩
          · have HF : Hid (¬ Q) := fun h => by have := HBAD.out.2 (bare_of_one (HQ1.out.1 h)); cases this
            go_wp2
            go_ret
            exact ⟨false, rfl, iffF HF.out, HBW.out⟩

theorem forms_all : ∀ n, FoS n
  | 0 => by intro k mn mx ns ms kids A M K ca ma kc B0 w hh; omega
  | n + 1 => formS (forms_all n)

set_option maxRecDepth 100000 in
set_option maxHeartbeats 1000000 in
theorem specSchemaOk_any (k mn mx : Int) (ns : List ByteArray) (ms : List Bool) (kids : List Sc) (A M K : Option Addr) (ca ma kc B0 : Nat) (w : World) (hv : ScV w B0 ns ms kids A M K) (hl : LimS 1048576 (.mk k mn mx ns ms kids)) :
    Calls Tryz.prog 16 #[.agg #[.int .i64 k, .int .i64 mn, .int .i64 mx, .slice A ns.length ca, .slice M ms.length ma, .slice K kids.length kc]] w (BoolPost (SchemaP (.mk k mn mx ns ms kids)) w) := by
  obtain ⟨W0, hW0⟩ : ∃ W0, w.alloc (.cells #[.int .i64 k, .int .i64 mn, .int .i64 mx, .slice A ns.length ca, .slice M ms.length ma, .slice K kids.length kc] 31) = W0 := ⟨_, rfl⟩
  have HBX : Hid (Below w.heap.size w W0) := by rw [← hW0]; exact below_box _
  have HO : Hid (Own W0 w.heap.size 31 (c6 k mn mx A ns.length ca M ms.length ma K kids.length kc)) := by rw [← hW0]; exact Own.new w 31 #[.int .i64 k, .int .i64 mn, .int .i64 mx, .slice A ns.length ca, .slice M ms.length ma, .slice K kids.length kc]
  have HV := Lib.hid (hv.keep HBX.out)
  have HL := Lib.hid hl
  have hls := hl
  cases hls with
  | mk _ _ _ _ _ _ l2 l3 lm l4 l5 lb =>
  have HC1 := Lib.hid (sizes_all 4 (by omega) k mn mx ns ms kids A M K ca ma kc B0 W0 HV.out.k l4 l5)
  obtain ⟨Q, hQ⟩ : ∃ Q : Prop, Q ↔ SchemaP (.mk k mn mx ns ms kids) := ⟨_, Iff.rfl⟩
  rw [show SchemaP (.mk k mn mx ns ms kids) = Q from (propext hQ).symm]
  have HQ := Lib.hid hQ
  obtain ⟨p0, p1, p2, p3, p4, p5⟩ := c6_get HO.out
  have pl := HO.out.lt
  have HW := Lib.hid hW0
  clear hv hl hW0 l2 l3 lm l4 l5 lb hQ
  go_enter Tryz.func16, Tryz.ntmps16
  go_upto_region 1 with fail
  rw [HW.out]
  clear HW
  go_wp2_with fail
  refine HC1.out.mono ?_
  rintro e w1 ⟨⟨r, rfl, hr1, hr2, hr3, hr4⟩, hb1⟩
  have HB1 := Lib.hid (HBX.out.trans (hb1.mono HBX.out.size))
  have HV1 := Lib.hid (HV.out.keep hb1)
  have HO1 := HO.out.keep hb1
  have HR : Hid (r ≤ 10 ↔ GooP 4 (.mk k mn mx ns ms kids) ∧ (Sc.mk k mn mx ns ms kids).nodes ≤ 10) := by
    show _ ↔ _
    by_cases h : GooP 4 (.mk k mn mx ns ms kids)
    · have := hr3 h; exact ⟨fun h' => ⟨h, by omega⟩, fun h' => by have := h'.2; omega⟩
    · have := hr4 h; exact ⟨fun h' => by omega, fun h' => absurd h'.1 h⟩
  clear p0 p1 p2 p3 p4 p5 pl hr3 hr4 hb1 HC1
  have hrb : r ≤ 6875 := hr2
  clear hr2
  obtain ⟨p0, p1, p2, p3, p4, p5⟩ := c6_get HO1
  have pl := HO1.lt
  clear HO1
  by_cases h10 : r ≤ 10
  · have h10' : (r : Int) ≤ 10 := by omega
    have HG := Lib.hid (HR.out.1 h10)
    clear h10 HR
    go_wp2_with fail
    refine (forms_all _ k mn mx ns ms kids A M K ca ma kc B0 w1 (Nat.le_refl _) HV1.out HL.out).mono ?_
    rintro e w2 ⟨q, rfl, hq, hb2⟩
    have HB2 := Lib.hid (HB1.out.trans (hb2.mono HB1.out.size))
    have HQ2 := Lib.hid hq
    clear hq hb2 p0 p1 p2 p3 p4 p5 pl
    go_wp2
    go_ret
    refine ⟨q, rfl, ?_, HB2.out⟩
    rw [HQ2.out, HQ.out]
    have := HG.out
    exact ⟨fun h => ⟨this.1.1, this.1.2, this.2, h⟩, fun h => h.2.2.2⟩
  · have h10' : ¬ (r : Int) ≤ 10 := by omega
    have HF : Hid (¬ Q) := fun h => by
      have h := HQ.out.1 h
      exact h10 (HR.out.2 ⟨⟨h.1, h.2.1⟩, h.2.2.1⟩)
    clear h10 HR
    go_wp2
    go_ret
    exact ⟨false, rfl, iffF HF.out, HB1.out⟩

end Go.Proofs.YtkhcappjhefkjaaGreatDoor

