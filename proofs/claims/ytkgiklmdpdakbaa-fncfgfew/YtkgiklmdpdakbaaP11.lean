/- The specification of grammars, walked: l2Part (written by tools/gen_p11.py). -/
import Derived.Test.YtkgiklmdpdakbaaP10
namespace Go.Proofs.Ytkgiklmdpdakbaa
open Go.RowKit
set_option linter.unusedVariables false

/-- A part is in form, whatever is in its kids. -/
def AloneP (rs : List Ru) (k : Int) (t : ByteArray) (lo hi : List Int) (kids : List Pt) (mn mx : Int) : Prop :=
  (k ≠ 6 → mn = 0 ∧ mx = 0) ∧
  ((k = 1 ∧ 1 ≤ t.size ∧ t.size ≤ 20 ∧ lo.length = 0 ∧ hi.length = 0 ∧ kids.length = 0) ∨ (k = 2 ∧ t.size = 0 ∧ kids.length = 0 ∧ ClassP lo hi) ∨ (k = 3 ∧ (∃ x ∈ rs, x.name = t) ∧ lo.length = 0 ∧ hi.length = 0 ∧ kids.length = 0) ∨
   (k = 4 ∧ BareP t lo hi ∧ kids.length ≠ 1 ∧ FlatP 4 kids) ∨ (k = 5 ∧ BareP t lo hi ∧ 2 ≤ kids.length ∧ FlatP 5 kids) ∨ (k = 6 ∧ BareP t lo hi ∧ kids.length = 1 ∧ 0 ≤ mn ∧ mn ≤ 6 ∧ (mx = -1 ∨ (mn ≤ mx ∧ mx ≤ 6 ∧ 0 < mx))))
inductive OkP (rs : List Ru) : Pt → Prop
  | mk (k : Int) (t : ByteArray) (lo hi : List Int) (kids : List Pt) (mn mx : Int) : AloneP rs k t lo hi kids mn mx → (∀ p ∈ kids, OkP rs p) → OkP rs (.mk k t lo hi kids mn mx)

/-- l2Part, at most so deep. -/
def PaP (d : Nat) : Prop := ∀ (rs : List Ru) (k : Int) (t : ByteArray) (lo hi : List Int) (kids : List Pt) (mn mx : Int) (a A B K : Option Addr) (c ca cb kc B0 B1 : Nat) (w : World), Rus w B1 a rs → rs.length ≤ 1048576 → PtV w B0 lo hi kids A B K → Lim 1048576 (.mk k t lo hi kids mn mx) →
  Calls Try.prog 67 #[.agg #[.slice a rs.length c], .agg #[.int .i64 k, .string t, .slice A lo.length ca, .slice B hi.length cb, .slice K kids.length kc, .int .i64 mn, .int .i64 mx], .int .i64 (d : Nat)] w (BoolPost (htL kids + 1 ≤ d ∧ OkP rs (.mk k t lo hi kids mn mx)) w)

set_option maxRecDepth 100000 in
set_option maxHeartbeats 1000000 in
theorem part0 : PaP 0 := by
  intro rs k t lo hi kids mn mx a A B K c ca cb kc B0 B1 w hr hrl hv hl
  go_enter Try.func67, Try.ntmps67
  go_wp2
  go_ret
  exact ⟨false, rfl, iffF (fun h => by have := h.1; omega), (below_box _).alloc (by simp) _⟩

set_option maxRecDepth 100000 in
set_option maxHeartbeats 8000000 in
theorem partS {d : Nat} (IH : PaP d) (hd : d ≤ 8) : PaP (d + 1) := by
  intro rs k t lo hi kids mn mx a A B K c ca cb kc B0 B1 w hr hrl hv hl
  have HI := Lib.hid IH
  have HR := Lib.hid hr
  have HV := Lib.hid hv
  cases hl with
  | mk _ _ _ _ _ _ _ l1 l2 l3 l4 l5 =>
  have HL5 := Lib.hid l5
  have hd1 : ¬ ((d : Int) + 1) < 1 := by omega
  have hwd : IntKind.i64.wrap ((d : Int) + 1 - 1) = (d : Int) := by rw [IntKind.wrap_i64]; omega
  have hwd2 : IntKind.i64.wrap (d : Int) = (d : Int) := IntWalk.i64_in _ (by omega)
  have HBX := Lib.hid ((below_box (w := w) (.cells #[.slice a rs.length c] 64)).alloc (by simp) (.cells #[.int .i64 k, .string t, .slice A lo.length ca, .slice B hi.length cb, .slice K kids.length kc, .int .i64 mn, .int .i64 mx] 88))
  have OGm : Hid (Own ((w.alloc (.cells #[.slice a rs.length c] 64)).alloc (.cells #[.int .i64 k, .string t, .slice A lo.length ca, .slice B hi.length cb, .slice K kids.length kc, .int .i64 mn, .int .i64 mx] 88)) w.heap.size 64 [.slice a rs.length c]) := (Own.new w 64 #[.slice a rs.length c]).alloc _
  have OP : Hid (Own ((w.alloc (.cells #[.slice a rs.length c] 64)).alloc (.cells #[.int .i64 k, .string t, .slice A lo.length ca, .slice B hi.length cb, .slice K kids.length kc, .int .i64 mn, .int .i64 mx] 88)) (w.heap.size + 1) 88 [.int .i64 k, .string t, .slice A lo.length ca, .slice B hi.length cb, .slice K kids.length kc, .int .i64 mn, .int .i64 mx]) := by
    have h := Own.new (w.alloc (.cells #[.slice a rs.length c] 64)) 88 #[.int .i64 k, .string t, .slice A lo.length ca, .slice B hi.length cb, .slice K kids.length kc, .int .i64 mn, .int .i64 mx]
    rw [World.size_alloc] at h
    exact h
  obtain ⟨Q, hQ⟩ : ∃ Q : Prop, Q ↔ (htL kids + 1 ≤ d + 1 ∧ OkP rs (.mk k t lo hi kids mn mx)) := ⟨_, Iff.rfl⟩
  rw [show (htL kids + 1 ≤ d + 1 ∧ OkP rs (.mk k t lo hi kids mn mx)) = Q from (propext hQ).symm]
  have HQ := Lib.hid hQ
  clear IH hr hv l5 hQ
  by_cases h6 : k = 6
  · subst h6
    go_enter Try.func67, Try.ntmps67
    go_wp2
    generalize (w.alloc (.cells #[.slice a rs.length c] 64)).alloc (.cells #[.int .i64 6, .string t, .slice A lo.length ca, .slice B hi.length cb, .slice K kids.length kc, .int .i64 mn, .int .i64 mx] 88) = W0 at *
    go_loopw [7] (fun i wr => ∃ j : Nat, j ≤ kids.length ∧ i = .int .i64 j ∧ Hid (∀ u (h : u < kids.length), u < j → kids[u].ht ≤ d ∧ OkP rs kids[u]) ∧ Below W0.heap.size W0 wr) (fun i _ => kids.length - (intOf i).toNat)
    case atStart => exact ⟨0, Nat.zero_le _, rfl, fun u _ hu => by omega, Below.refl _ _⟩
    case round =>
      obtain ⟨j, hj, rfl, HU, hb⟩ := hrel
      have k4 : wr.cell? ⟨w.heap.size + 1, 4, none⟩ = some (.slice K kids.length kc) := by rw [(OP.out.keep hb).cell]; rfl
      have g0 : wr.cell? ⟨w.heap.size, 0, none⟩ = some (.slice a rs.length c) := by rw [(OGm.out.keep hb).cell]; rfl
      have kl := cell_lt k4
      have gl := cell_lt g0
      simp only at kl gl
      by_cases hlt : j < kids.length
      · have hlt' : (j : Int) < (kids.length : Int) := by omega
        obtain ⟨b, off, rfl, hp⟩ := (HV.out.k.keep (HBX.out.trans (hb.mono HBX.out.size))).at_ hlt
        have HNO : Hid (Q → kids[j].ht ≤ d ∧ OkP rs kids[j]) := fun h => by
          replace h := HQ.out.1 h
          refine ⟨htL_le.1 (by omega) _ (List.getElem_mem hlt), ?_⟩
          cases h.2 with
          | mk _ _ _ _ _ _ _ _ q => exact q _ (List.getElem_mem hlt)
        have HU2 : Hid (kids[j].ht ≤ d ∧ OkP rs kids[j] → ∀ u (h : u < kids.length), u < j + 1 → kids[u].ht ≤ d ∧ OkP rs kids[u]) := fun h1 u hu huj => by
          rcases Nat.lt_succ_iff_lt_or_eq.1 huj with h3 | h3
          · exact HU.out u hu h3
          · subst h3; exact h1
        have hlim := HL5.out _ (List.getElem_mem hlt)
        generalize kids[j] = p at *
        obtain ⟨pk, pt, plo, phi, pkids, pmn, pmx⟩ := p
        rw [ht_mk] at HNO HU2
        obtain ⟨PA, PB, PK, pa, pb, pc, hc, hv⟩ := hp.open_
        obtain ⟨c0, c1, c2, c3, c4, c5, c6⟩ := hc
        have HC := Lib.hid (HI.out rs pk pt plo phi pkids pmn pmx a PA PB PK c pa pb pc B0 B1 wr.drew ((HR.out.keep (HBX.out.trans (hb.mono HBX.out.size))).keep (Below.refl _ _).drew) hrl (hv.keep (Below.refl _ _).drew) hlim)
        clear hp hv hlim
        go_wp2
        go_region_held3 (fun X => X.cell? ⟨w.heap.size, 0, none⟩ = some (.slice a rs.length c) ∧ X.cell? ⟨w.heap.size + 1, 4, none⟩ = some (.slice (some ⟨b, off, none⟩) kids.length kc) ∧ X.cell? ⟨b, off + j * 7, none⟩ = some (.int .i64 pk) ∧ X.cell? ⟨b, off + j * 7 + 1, none⟩ = some (.string pt) ∧ X.cell? ⟨b, off + j * 7 + 2, none⟩ = some (.slice PA plo.length pa) ∧ X.cell? ⟨b, off + j * 7 + 3, none⟩ = some (.slice PB phi.length pb) ∧ X.cell? ⟨b, off + j * 7 + 4, none⟩ = some (.slice PK pkids.length pc) ∧ X.cell? ⟨b, off + j * 7 + 5, none⟩ = some (.int .i64 pmn) ∧ X.cell? ⟨b, off + j * 7 + 6, none⟩ = some (.int .i64 pmx))
          (first | exact ⟨cell_keep hb2 g0, cell_keep hb2 k4, cell_keep hb2 c0, cell_keep hb2 c1, cell_keep hb2 c2, cell_keep hb2 c3, cell_keep hb2 c4, cell_keep hb2 c5, cell_keep hb2 c6⟩ | exact ⟨g0, k4, c0, c1, c2, c3, c4, c5, c6⟩)
          (first | (go_at_call 67; refine HC.out.mono ?_; rintro e w2 ⟨r, rfl, hr, hb2⟩))
        have hb' : Below W0.heap.size W0 w2 := hb.drew.trans (hb2.mono hb.drew.size)
        have HRR := Lib.hid hr
        clear hb hb2 HC hr g0 k4 c0 c1 c2 c3 c4 c5 c6
        cases r
        · have HNR : Hid (¬ Q) := fun h => by have := HRR.out.2 (HNO.out h); cases this
          go_wp2
          go_ret
          exact ⟨false, rfl, iffF HNR.out, HBX.out.trans (hb'.mono HBX.out.size)⟩
        · have HU3 := Lib.hid (HU2.out (HRR.out.1 rfl))
          go_wp2
          go_roundw
          case rel => exact ⟨j + 1, by omega, by go_num, HU3, hb'⟩
          case measure => simp [intOf]; omega
      · have hlt' : ¬ (j : Int) < (kids.length : Int) := by omega
        have HYES : Hid (AloneP rs 6 t lo hi kids mn mx → Q) := fun h => by
          refine HQ.out.2 ?_
          have h1 : htL kids ≤ d := htL_le.2 (fun p hp => by
            obtain ⟨u, hu, rfl⟩ := List.getElem_of_mem hp
            exact (HU.out u hu (by omega)).1)
          refine ⟨by omega, .mk 6 t lo hi kids mn mx h (fun p hp => ?_)⟩
          obtain ⟨u, hu, rfl⟩ := List.getElem_of_mem hp
          exact (HU.out u hu (by omega)).2
        have HNO : Hid (¬ AloneP rs 6 t lo hi kids mn mx → ¬ Q) := fun h h2 => by
          cases (HQ.out.1 h2).2 with
          | mk _ _ _ _ _ _ _ q => exact h q
        have k0 : wr.cell? ⟨w.heap.size + 1, 0, none⟩ = some (.int .i64 6) := by rw [(OP.out.keep hb).cell]; rfl
        have k1 : wr.cell? ⟨w.heap.size + 1, 1, none⟩ = some (.string t) := by rw [(OP.out.keep hb).cell]; rfl
        have k2 : wr.cell? ⟨w.heap.size + 1, 2, none⟩ = some (.slice A lo.length ca) := by rw [(OP.out.keep hb).cell]; rfl
        have k3 : wr.cell? ⟨w.heap.size + 1, 3, none⟩ = some (.slice B hi.length cb) := by rw [(OP.out.keep hb).cell]; rfl
        have k5 : wr.cell? ⟨w.heap.size + 1, 5, none⟩ = some (.int .i64 mn) := by rw [(OP.out.keep hb).cell]; rfl
        have k6 : wr.cell? ⟨w.heap.size + 1, 6, none⟩ = some (.int .i64 mx) := by rw [(OP.out.keep hb).cell]; rfl
        have hbw : Below w.heap.size w wr := HBX.out.trans (hb.mono HBX.out.size)
        have VW := Lib.hid (HV.out.keep hbw)
        clear HU
        go_wp2_with fail
        refine (l2Bare_any 6 t lo hi kids.length mn mx A B K ca cb kc wr l2 l3).mono ?_
        rintro e w2 ⟨r, rfl, hr, hb2⟩
        have hbw2 : Below w.heap.size w w2 := hbw.trans (hb2.mono hbw.size)
        replace k0 := cell_keep hb2 k0
        replace k1 := cell_keep hb2 k1
        replace k2 := cell_keep hb2 k2
        replace k3 := cell_keep hb2 k3
        replace k4 := cell_keep hb2 k4
        replace k5 := cell_keep hb2 k5
        replace k6 := cell_keep hb2 k6
        replace VW := Lib.hid (VW.out.keep hb2)
        have kl2 := cell_lt k4
        simp only at kl2
        have HRR := Lib.hid hr
        clear hr
        cases r
        · have HT1 : Hid (¬ _) := fun p => by have := HRR.out.2 p; cases this
          go_wp2
          go_ret
          exact ⟨false, rfl, iffF (HNO.out (fun h => by
              obtain ⟨h0, h⟩ := h
              rcases h with ⟨e, h⟩ | ⟨e, h⟩ | ⟨e, h⟩ | ⟨e, h⟩ | ⟨e, h⟩ | ⟨e, h⟩ <;> first | (exfalso; omega) | (exact HT1.out h.1))), hbw2⟩
        · have HT1 := Lib.hid (HRR.out.1 rfl)
          have n1l : (0:Int) ≤ (kids.length : Int) := by omega
          by_cases n1 : kids.length = 1
          · have n1' : ((kids.length : Int) == 1) = true := by rw [beq_iff_eq]; omega
            by_cases m1 : 0 ≤ mn ∧ mn ≤ 6
            · have Q1 : inB mn 0 6 = true := inB_iff.2 m1
              by_cases x1 : mx = -1
              · have x1' : (mx == -1) = true := by simp [x1]
                go_wp2_with (go_at_call 28; refine (in_lit _ _ _ true _ Q1).mono ?_; rintro e w' ⟨rfl, rfl⟩)
                go_ret
                exact ⟨true, rfl, iffT (HYES.out ⟨fun h => absurd rfl h, .inr (.inr (.inr (.inr (.inr ⟨rfl, HT1.out, n1, m1.1, m1.2, .inl x1⟩))))⟩), hbw2⟩
              · have x1' : (mx == -1) = false := by simp [x1]
                by_cases x2 : mn ≤ mx ∧ mx ≤ 6
                · have Q2 : inB mx mn 6 = true := inB_iff.2 x2
                  by_cases x3 : 0 < mx
                  · go_wp2_with fail
                    refine (in_lit mn 0 6 true _ Q1).mono ?_
                    rintro e w' ⟨rfl, rfl⟩
                    go_wp2_with fail
                    refine (in_lit mx mn 6 true _ Q2).mono ?_
                    rintro e w' ⟨rfl, rfl⟩
                    go_wp2
                    go_ret
                    exact ⟨true, rfl, iffT (HYES.out ⟨fun h => absurd rfl h, .inr (.inr (.inr (.inr (.inr ⟨rfl, HT1.out, n1, m1.1, m1.2, .inr ⟨x2.1, x2.2, x3⟩⟩))))⟩), hbw2⟩
                  · go_wp2_with fail
                    refine (in_lit mn 0 6 true _ Q1).mono ?_
                    rintro e w' ⟨rfl, rfl⟩
                    go_wp2_with fail
                    refine (in_lit mx mn 6 true _ Q2).mono ?_
                    rintro e w' ⟨rfl, rfl⟩
                    go_wp2
                    go_ret
                    refine ⟨decide (0 < mx), rfl, ?_, hbw2⟩
                    rw [decide_eq_false (by omega)]
                    exact (iffF (HNO.out (fun h => by
                        obtain ⟨h0, h⟩ := h
                        rcases h with ⟨e, h⟩ | ⟨e, h⟩ | ⟨e, h⟩ | ⟨e, h⟩ | ⟨e, h⟩ | ⟨e, h⟩ <;> first | (exfalso; omega) | (have h5 := h.2.2.2.2; omega))))
                · have Q2 : inB mx mn 6 = false := by cases h : inB mx mn 6; rfl; exact absurd (inB_iff.1 h) x2
                  go_wp2_with fail
                  refine (in_lit mn 0 6 true _ Q1).mono ?_
                  rintro e w' ⟨rfl, rfl⟩
                  go_wp2_with fail
                  refine (in_lit mx mn 6 false _ Q2).mono ?_
                  rintro e w' ⟨rfl, rfl⟩
                  go_wp2
                  go_ret
                  exact ⟨false, rfl, iffF (HNO.out (fun h => by
                      obtain ⟨h0, h⟩ := h
                      rcases h with ⟨e, h⟩ | ⟨e, h⟩ | ⟨e, h⟩ | ⟨e, h⟩ | ⟨e, h⟩ | ⟨e, h⟩ <;> first | (exfalso; omega) | (have h5 := h.2.2.2.2; omega))), hbw2⟩
            · have Q1 : inB mn 0 6 = false := by cases h : inB mn 0 6; rfl; exact absurd (inB_iff.1 h) m1
              go_wp2_with (go_at_call 28; refine (in_lit _ _ _ false _ Q1).mono ?_; rintro e w' ⟨rfl, rfl⟩)
              go_ret
              exact ⟨false, rfl, iffF (HNO.out (fun h => by
                  obtain ⟨h0, h⟩ := h
                  rcases h with ⟨e, h⟩ | ⟨e, h⟩ | ⟨e, h⟩ | ⟨e, h⟩ | ⟨e, h⟩ | ⟨e, h⟩ <;> first | (exfalso; omega) | (have h3 := h.2.2.1; have h4 := h.2.2.2.1; omega))), hbw2⟩
          · have n1' : ((kids.length : Int) == 1) = false := by rw [beq_eq_false_iff_ne]; omega
            go_wp2
            go_ret
            exact ⟨false, rfl, iffF (HNO.out (fun h => by
                obtain ⟨h0, h⟩ := h
                rcases h with ⟨e, h⟩ | ⟨e, h⟩ | ⟨e, h⟩ | ⟨e, h⟩ | ⟨e, h⟩ | ⟨e, h⟩ <;> first | (exfalso; omega) | (have h3 := h.2.1; omega))), hbw2⟩
  · by_cases hmm : mn = 0 ∧ mx = 0
    · have n6 : (k != 6) = true := by simp [h6]
      obtain ⟨hmn, hmx⟩ := hmm
      have m0 : (mn != 0) = false := by simp [hmn]
      have x0 : (mx != 0) = false := by simp [hmx]
      have HMN := Lib.hid hmn
      have HMX := Lib.hid hmx
      clear hmn hmx
      by_cases h1 : k = 1
      · subst h1
        clear h6 n6
        go_enter Try.func67, Try.ntmps67
        go_wp2
        generalize (w.alloc (.cells #[.slice a rs.length c] 64)).alloc (.cells #[.int .i64 1, .string t, .slice A lo.length ca, .slice B hi.length cb, .slice K kids.length kc, .int .i64 mn, .int .i64 mx] 88) = W0 at *
        go_loopw [7] (fun i wr => ∃ j : Nat, j ≤ kids.length ∧ i = .int .i64 j ∧ Hid (∀ u (h : u < kids.length), u < j → kids[u].ht ≤ d ∧ OkP rs kids[u]) ∧ Below W0.heap.size W0 wr) (fun i _ => kids.length - (intOf i).toNat)
        case atStart => exact ⟨0, Nat.zero_le _, rfl, fun u _ hu => by omega, Below.refl _ _⟩
        case round =>
          obtain ⟨j, hj, rfl, HU, hb⟩ := hrel
          have k4 : wr.cell? ⟨w.heap.size + 1, 4, none⟩ = some (.slice K kids.length kc) := by rw [(OP.out.keep hb).cell]; rfl
          have g0 : wr.cell? ⟨w.heap.size, 0, none⟩ = some (.slice a rs.length c) := by rw [(OGm.out.keep hb).cell]; rfl
          have kl := cell_lt k4
          have gl := cell_lt g0
          simp only at kl gl
          by_cases hlt : j < kids.length
          · have hlt' : (j : Int) < (kids.length : Int) := by omega
            obtain ⟨b, off, rfl, hp⟩ := (HV.out.k.keep (HBX.out.trans (hb.mono HBX.out.size))).at_ hlt
            have HNO : Hid (Q → kids[j].ht ≤ d ∧ OkP rs kids[j]) := fun h => by
              replace h := HQ.out.1 h
              refine ⟨htL_le.1 (by omega) _ (List.getElem_mem hlt), ?_⟩
              cases h.2 with
              | mk _ _ _ _ _ _ _ _ q => exact q _ (List.getElem_mem hlt)
            have HU2 : Hid (kids[j].ht ≤ d ∧ OkP rs kids[j] → ∀ u (h : u < kids.length), u < j + 1 → kids[u].ht ≤ d ∧ OkP rs kids[u]) := fun h1 u hu huj => by
              rcases Nat.lt_succ_iff_lt_or_eq.1 huj with h3 | h3
              · exact HU.out u hu h3
              · subst h3; exact h1
            have hlim := HL5.out _ (List.getElem_mem hlt)
            generalize kids[j] = p at *
            obtain ⟨pk, pt, plo, phi, pkids, pmn, pmx⟩ := p
            rw [ht_mk] at HNO HU2
            obtain ⟨PA, PB, PK, pa, pb, pc, hc, hv⟩ := hp.open_
            obtain ⟨c0, c1, c2, c3, c4, c5, c6⟩ := hc
            have HC := Lib.hid (HI.out rs pk pt plo phi pkids pmn pmx a PA PB PK c pa pb pc B0 B1 wr.drew ((HR.out.keep (HBX.out.trans (hb.mono HBX.out.size))).keep (Below.refl _ _).drew) hrl (hv.keep (Below.refl _ _).drew) hlim)
            clear hp hv hlim
            go_wp2
            go_region_held3 (fun X => X.cell? ⟨w.heap.size, 0, none⟩ = some (.slice a rs.length c) ∧ X.cell? ⟨w.heap.size + 1, 4, none⟩ = some (.slice (some ⟨b, off, none⟩) kids.length kc) ∧ X.cell? ⟨b, off + j * 7, none⟩ = some (.int .i64 pk) ∧ X.cell? ⟨b, off + j * 7 + 1, none⟩ = some (.string pt) ∧ X.cell? ⟨b, off + j * 7 + 2, none⟩ = some (.slice PA plo.length pa) ∧ X.cell? ⟨b, off + j * 7 + 3, none⟩ = some (.slice PB phi.length pb) ∧ X.cell? ⟨b, off + j * 7 + 4, none⟩ = some (.slice PK pkids.length pc) ∧ X.cell? ⟨b, off + j * 7 + 5, none⟩ = some (.int .i64 pmn) ∧ X.cell? ⟨b, off + j * 7 + 6, none⟩ = some (.int .i64 pmx))
              (first | exact ⟨cell_keep hb2 g0, cell_keep hb2 k4, cell_keep hb2 c0, cell_keep hb2 c1, cell_keep hb2 c2, cell_keep hb2 c3, cell_keep hb2 c4, cell_keep hb2 c5, cell_keep hb2 c6⟩ | exact ⟨g0, k4, c0, c1, c2, c3, c4, c5, c6⟩)
              (first | (go_at_call 67; refine HC.out.mono ?_; rintro e w2 ⟨r, rfl, hr, hb2⟩))
            have hb' : Below W0.heap.size W0 w2 := hb.drew.trans (hb2.mono hb.drew.size)
            have HRR := Lib.hid hr
            clear hb hb2 HC hr g0 k4 c0 c1 c2 c3 c4 c5 c6
            cases r
            · have HNR : Hid (¬ Q) := fun h => by have := HRR.out.2 (HNO.out h); cases this
              go_wp2
              go_ret
              exact ⟨false, rfl, iffF HNR.out, HBX.out.trans (hb'.mono HBX.out.size)⟩
            · have HU3 := Lib.hid (HU2.out (HRR.out.1 rfl))
              go_wp2
              go_roundw
              case rel => exact ⟨j + 1, by omega, by go_num, HU3, hb'⟩
              case measure => simp [intOf]; omega
          · have hlt' : ¬ (j : Int) < (kids.length : Int) := by omega
            have HYES : Hid (AloneP rs 1 t lo hi kids mn mx → Q) := fun h => by
              refine HQ.out.2 ?_
              have h1 : htL kids ≤ d := htL_le.2 (fun p hp => by
                obtain ⟨u, hu, rfl⟩ := List.getElem_of_mem hp
                exact (HU.out u hu (by omega)).1)
              refine ⟨by omega, .mk 1 t lo hi kids mn mx h (fun p hp => ?_)⟩
              obtain ⟨u, hu, rfl⟩ := List.getElem_of_mem hp
              exact (HU.out u hu (by omega)).2
            have HNO : Hid (¬ AloneP rs 1 t lo hi kids mn mx → ¬ Q) := fun h h2 => by
              cases (HQ.out.1 h2).2 with
              | mk _ _ _ _ _ _ _ q => exact h q
            have k0 : wr.cell? ⟨w.heap.size + 1, 0, none⟩ = some (.int .i64 1) := by rw [(OP.out.keep hb).cell]; rfl
            have k1 : wr.cell? ⟨w.heap.size + 1, 1, none⟩ = some (.string t) := by rw [(OP.out.keep hb).cell]; rfl
            have k2 : wr.cell? ⟨w.heap.size + 1, 2, none⟩ = some (.slice A lo.length ca) := by rw [(OP.out.keep hb).cell]; rfl
            have k3 : wr.cell? ⟨w.heap.size + 1, 3, none⟩ = some (.slice B hi.length cb) := by rw [(OP.out.keep hb).cell]; rfl
            have k5 : wr.cell? ⟨w.heap.size + 1, 5, none⟩ = some (.int .i64 mn) := by rw [(OP.out.keep hb).cell]; rfl
            have k6 : wr.cell? ⟨w.heap.size + 1, 6, none⟩ = some (.int .i64 mx) := by rw [(OP.out.keep hb).cell]; rfl
            have hbw : Below w.heap.size w wr := HBX.out.trans (hb.mono HBX.out.size)
            have VW := Lib.hid (HV.out.keep hbw)
            clear HU
            by_cases s1 : 1 ≤ t.size
            · have s1' : (1 : Int) ≤ (t.size : Int) := by omega
              by_cases s2 : t.size ≤ 20
              · have s2' : (t.size : Int) ≤ 20 := by omega
                by_cases ln : lo.length = 0 ∧ hi.length = 0 ∧ kids.length = 0
                · have ln' : (((lo.length : Int) + (hi.length : Int) + (kids.length : Int)) == 0) = true := by rw [beq_iff_eq]; omega
                  have LN := Lib.hid ln
                  clear ln
                  go_wp2
                  go_ret
                  exact ⟨true, rfl, iffT (HYES.out ⟨fun _ => ⟨HMN.out, HMX.out⟩, .inl ⟨rfl, s1, s2, LN.out.1, LN.out.2.1, LN.out.2.2⟩⟩), hbw⟩
                · have ln' : (((lo.length : Int) + (hi.length : Int) + (kids.length : Int)) == 0) = false := by rw [beq_eq_false_iff_ne]; omega
                  have LN := Lib.hid ln
                  clear ln
                  go_wp2
                  go_ret
                  exact ⟨false, rfl, iffF (HNO.out (fun h => by
                      obtain ⟨h0, h⟩ := h
                      rcases h with ⟨e, h⟩ | ⟨e, h⟩ | ⟨e, h⟩ | ⟨e, h⟩ | ⟨e, h⟩ | ⟨e, h⟩ <;> first | (exfalso; omega) | (exact LN.out h.2.2))), hbw⟩
              · have s2' : ¬ (t.size : Int) ≤ 20 := by omega
                go_wp2
                go_ret
                exact ⟨false, rfl, iffF (HNO.out (fun h => by
                    obtain ⟨h0, h⟩ := h
                    rcases h with ⟨e, h⟩ | ⟨e, h⟩ | ⟨e, h⟩ | ⟨e, h⟩ | ⟨e, h⟩ | ⟨e, h⟩ <;> first | (exfalso; omega) | (have := h.2.1; omega))), hbw⟩
            · have s1' : ¬ (1 : Int) ≤ (t.size : Int) := by omega
              go_wp2
              go_ret
              exact ⟨false, rfl, iffF (HNO.out (fun h => by
                  obtain ⟨h0, h⟩ := h
                  rcases h with ⟨e, h⟩ | ⟨e, h⟩ | ⟨e, h⟩ | ⟨e, h⟩ | ⟨e, h⟩ | ⟨e, h⟩ <;> first | (exfalso; omega) | (have := h.1; omega))), hbw⟩
      by_cases h2 : k = 2
      · subst h2
        clear h6 n6 h1
        go_enter Try.func67, Try.ntmps67
        go_wp2
        generalize (w.alloc (.cells #[.slice a rs.length c] 64)).alloc (.cells #[.int .i64 2, .string t, .slice A lo.length ca, .slice B hi.length cb, .slice K kids.length kc, .int .i64 mn, .int .i64 mx] 88) = W0 at *
        go_loopw [7] (fun i wr => ∃ j : Nat, j ≤ kids.length ∧ i = .int .i64 j ∧ Hid (∀ u (h : u < kids.length), u < j → kids[u].ht ≤ d ∧ OkP rs kids[u]) ∧ Below W0.heap.size W0 wr) (fun i _ => kids.length - (intOf i).toNat)
        case atStart => exact ⟨0, Nat.zero_le _, rfl, fun u _ hu => by omega, Below.refl _ _⟩
        case round =>
          obtain ⟨j, hj, rfl, HU, hb⟩ := hrel
          have k4 : wr.cell? ⟨w.heap.size + 1, 4, none⟩ = some (.slice K kids.length kc) := by rw [(OP.out.keep hb).cell]; rfl
          have g0 : wr.cell? ⟨w.heap.size, 0, none⟩ = some (.slice a rs.length c) := by rw [(OGm.out.keep hb).cell]; rfl
          have kl := cell_lt k4
          have gl := cell_lt g0
          simp only at kl gl
          by_cases hlt : j < kids.length
          · have hlt' : (j : Int) < (kids.length : Int) := by omega
            obtain ⟨b, off, rfl, hp⟩ := (HV.out.k.keep (HBX.out.trans (hb.mono HBX.out.size))).at_ hlt
            have HNO : Hid (Q → kids[j].ht ≤ d ∧ OkP rs kids[j]) := fun h => by
              replace h := HQ.out.1 h
              refine ⟨htL_le.1 (by omega) _ (List.getElem_mem hlt), ?_⟩
              cases h.2 with
              | mk _ _ _ _ _ _ _ _ q => exact q _ (List.getElem_mem hlt)
            have HU2 : Hid (kids[j].ht ≤ d ∧ OkP rs kids[j] → ∀ u (h : u < kids.length), u < j + 1 → kids[u].ht ≤ d ∧ OkP rs kids[u]) := fun h1 u hu huj => by
              rcases Nat.lt_succ_iff_lt_or_eq.1 huj with h3 | h3
              · exact HU.out u hu h3
              · subst h3; exact h1
            have hlim := HL5.out _ (List.getElem_mem hlt)
            generalize kids[j] = p at *
            obtain ⟨pk, pt, plo, phi, pkids, pmn, pmx⟩ := p
            rw [ht_mk] at HNO HU2
            obtain ⟨PA, PB, PK, pa, pb, pc, hc, hv⟩ := hp.open_
            obtain ⟨c0, c1, c2, c3, c4, c5, c6⟩ := hc
            have HC := Lib.hid (HI.out rs pk pt plo phi pkids pmn pmx a PA PB PK c pa pb pc B0 B1 wr.drew ((HR.out.keep (HBX.out.trans (hb.mono HBX.out.size))).keep (Below.refl _ _).drew) hrl (hv.keep (Below.refl _ _).drew) hlim)
            clear hp hv hlim
            go_wp2
            go_region_held3 (fun X => X.cell? ⟨w.heap.size, 0, none⟩ = some (.slice a rs.length c) ∧ X.cell? ⟨w.heap.size + 1, 4, none⟩ = some (.slice (some ⟨b, off, none⟩) kids.length kc) ∧ X.cell? ⟨b, off + j * 7, none⟩ = some (.int .i64 pk) ∧ X.cell? ⟨b, off + j * 7 + 1, none⟩ = some (.string pt) ∧ X.cell? ⟨b, off + j * 7 + 2, none⟩ = some (.slice PA plo.length pa) ∧ X.cell? ⟨b, off + j * 7 + 3, none⟩ = some (.slice PB phi.length pb) ∧ X.cell? ⟨b, off + j * 7 + 4, none⟩ = some (.slice PK pkids.length pc) ∧ X.cell? ⟨b, off + j * 7 + 5, none⟩ = some (.int .i64 pmn) ∧ X.cell? ⟨b, off + j * 7 + 6, none⟩ = some (.int .i64 pmx))
              (first | exact ⟨cell_keep hb2 g0, cell_keep hb2 k4, cell_keep hb2 c0, cell_keep hb2 c1, cell_keep hb2 c2, cell_keep hb2 c3, cell_keep hb2 c4, cell_keep hb2 c5, cell_keep hb2 c6⟩ | exact ⟨g0, k4, c0, c1, c2, c3, c4, c5, c6⟩)
              (first | (go_at_call 67; refine HC.out.mono ?_; rintro e w2 ⟨r, rfl, hr, hb2⟩))
            have hb' : Below W0.heap.size W0 w2 := hb.drew.trans (hb2.mono hb.drew.size)
            have HRR := Lib.hid hr
            clear hb hb2 HC hr g0 k4 c0 c1 c2 c3 c4 c5 c6
            cases r
            · have HNR : Hid (¬ Q) := fun h => by have := HRR.out.2 (HNO.out h); cases this
              go_wp2
              go_ret
              exact ⟨false, rfl, iffF HNR.out, HBX.out.trans (hb'.mono HBX.out.size)⟩
            · have HU3 := Lib.hid (HU2.out (HRR.out.1 rfl))
              go_wp2
              go_roundw
              case rel => exact ⟨j + 1, by omega, by go_num, HU3, hb'⟩
              case measure => simp [intOf]; omega
          · have hlt' : ¬ (j : Int) < (kids.length : Int) := by omega
            have HYES : Hid (AloneP rs 2 t lo hi kids mn mx → Q) := fun h => by
              refine HQ.out.2 ?_
              have h1 : htL kids ≤ d := htL_le.2 (fun p hp => by
                obtain ⟨u, hu, rfl⟩ := List.getElem_of_mem hp
                exact (HU.out u hu (by omega)).1)
              refine ⟨by omega, .mk 2 t lo hi kids mn mx h (fun p hp => ?_)⟩
              obtain ⟨u, hu, rfl⟩ := List.getElem_of_mem hp
              exact (HU.out u hu (by omega)).2
            have HNO : Hid (¬ AloneP rs 2 t lo hi kids mn mx → ¬ Q) := fun h h2 => by
              cases (HQ.out.1 h2).2 with
              | mk _ _ _ _ _ _ _ q => exact h q
            have k0 : wr.cell? ⟨w.heap.size + 1, 0, none⟩ = some (.int .i64 2) := by rw [(OP.out.keep hb).cell]; rfl
            have k1 : wr.cell? ⟨w.heap.size + 1, 1, none⟩ = some (.string t) := by rw [(OP.out.keep hb).cell]; rfl
            have k2 : wr.cell? ⟨w.heap.size + 1, 2, none⟩ = some (.slice A lo.length ca) := by rw [(OP.out.keep hb).cell]; rfl
            have k3 : wr.cell? ⟨w.heap.size + 1, 3, none⟩ = some (.slice B hi.length cb) := by rw [(OP.out.keep hb).cell]; rfl
            have k5 : wr.cell? ⟨w.heap.size + 1, 5, none⟩ = some (.int .i64 mn) := by rw [(OP.out.keep hb).cell]; rfl
            have k6 : wr.cell? ⟨w.heap.size + 1, 6, none⟩ = some (.int .i64 mx) := by rw [(OP.out.keep hb).cell]; rfl
            have hbw : Below w.heap.size w wr := HBX.out.trans (hb.mono HBX.out.size)
            have VW := Lib.hid (HV.out.keep hbw)
            clear HU
            by_cases s1 : t.size = 0
            · have s1' : t.toList.isEmpty = true := by rw [empty_iff]; simp [s1]
              have S1 := Lib.hid s1
              clear s1
              by_cases s2 : kids.length = 0
              · have s2' : ((kids.length : Int) == 0) = true := by rw [beq_iff_eq]; omega
                have S2 := Lib.hid s2
                clear s2
                go_wp2_with fail
                refine (l2Class_any 2 t lo hi kids.length mn mx A B K ca cb kc wr VW.out.a VW.out.b l2 l3).mono ?_
                rintro e w2 ⟨r, rfl, hr, hb2⟩
                have hbw2 : Below w.heap.size w w2 := hbw.trans (hb2.mono hbw.size)
                replace k0 := cell_keep hb2 k0
                replace k1 := cell_keep hb2 k1
                replace k2 := cell_keep hb2 k2
                replace k3 := cell_keep hb2 k3
                replace k4 := cell_keep hb2 k4
                replace k5 := cell_keep hb2 k5
                replace k6 := cell_keep hb2 k6
                replace VW := Lib.hid (VW.out.keep hb2)
                have kl2 := cell_lt k4
                simp only at kl2
                have HRR := Lib.hid hr
                clear hr
                cases r
                · have HT1 : Hid (¬ _) := fun p => by have := HRR.out.2 p; cases this
                  go_wp2
                  go_ret
                  exact ⟨false, rfl, iffF (HNO.out (fun h => by
                      obtain ⟨h0, h⟩ := h
                      rcases h with ⟨e, h⟩ | ⟨e, h⟩ | ⟨e, h⟩ | ⟨e, h⟩ | ⟨e, h⟩ | ⟨e, h⟩ <;> first | (exfalso; omega) | (exact HT1.out h.2.2))), hbw2⟩
                · have HT1 := Lib.hid (HRR.out.1 rfl)
                  go_wp2
                  go_ret
                  exact ⟨true, rfl, iffT (HYES.out ⟨fun _ => ⟨HMN.out, HMX.out⟩, .inr (.inl ⟨rfl, S1.out, S2.out, HT1.out⟩)⟩), hbw2⟩
              · have s2' : ((kids.length : Int) == 0) = false := by rw [beq_eq_false_iff_ne]; omega
                go_wp2
                go_ret
                exact ⟨false, rfl, iffF (HNO.out (fun h => by
                    obtain ⟨h0, h⟩ := h
                    rcases h with ⟨e, h⟩ | ⟨e, h⟩ | ⟨e, h⟩ | ⟨e, h⟩ | ⟨e, h⟩ | ⟨e, h⟩ <;> first | (exfalso; omega) | (have := h.2.1; omega))), hbw⟩
            · have s1' : t.toList.isEmpty = false := by rw [empty_iff]; simp [s1]
              have S1 := Lib.hid s1
              clear s1
              go_wp2
              go_ret
              exact ⟨false, rfl, iffF (HNO.out (fun h => by
                  obtain ⟨h0, h⟩ := h
                  rcases h with ⟨e, h⟩ | ⟨e, h⟩ | ⟨e, h⟩ | ⟨e, h⟩ | ⟨e, h⟩ | ⟨e, h⟩ <;> first | (exfalso; omega) | (exact absurd h.1 S1.out))), hbw⟩
      by_cases h3 : k = 3
      · subst h3
        clear h6 n6 h1 h2
        go_enter Try.func67, Try.ntmps67
        go_wp2
        generalize (w.alloc (.cells #[.slice a rs.length c] 64)).alloc (.cells #[.int .i64 3, .string t, .slice A lo.length ca, .slice B hi.length cb, .slice K kids.length kc, .int .i64 mn, .int .i64 mx] 88) = W0 at *
        go_loopw [7] (fun i wr => ∃ j : Nat, j ≤ kids.length ∧ i = .int .i64 j ∧ Hid (∀ u (h : u < kids.length), u < j → kids[u].ht ≤ d ∧ OkP rs kids[u]) ∧ Below W0.heap.size W0 wr) (fun i _ => kids.length - (intOf i).toNat)
        case atStart => exact ⟨0, Nat.zero_le _, rfl, fun u _ hu => by omega, Below.refl _ _⟩
        case round =>
          obtain ⟨j, hj, rfl, HU, hb⟩ := hrel
          have k4 : wr.cell? ⟨w.heap.size + 1, 4, none⟩ = some (.slice K kids.length kc) := by rw [(OP.out.keep hb).cell]; rfl
          have g0 : wr.cell? ⟨w.heap.size, 0, none⟩ = some (.slice a rs.length c) := by rw [(OGm.out.keep hb).cell]; rfl
          have kl := cell_lt k4
          have gl := cell_lt g0
          simp only at kl gl
          by_cases hlt : j < kids.length
          · have hlt' : (j : Int) < (kids.length : Int) := by omega
            obtain ⟨b, off, rfl, hp⟩ := (HV.out.k.keep (HBX.out.trans (hb.mono HBX.out.size))).at_ hlt
            have HNO : Hid (Q → kids[j].ht ≤ d ∧ OkP rs kids[j]) := fun h => by
              replace h := HQ.out.1 h
              refine ⟨htL_le.1 (by omega) _ (List.getElem_mem hlt), ?_⟩
              cases h.2 with
              | mk _ _ _ _ _ _ _ _ q => exact q _ (List.getElem_mem hlt)
            have HU2 : Hid (kids[j].ht ≤ d ∧ OkP rs kids[j] → ∀ u (h : u < kids.length), u < j + 1 → kids[u].ht ≤ d ∧ OkP rs kids[u]) := fun h1 u hu huj => by
              rcases Nat.lt_succ_iff_lt_or_eq.1 huj with h3 | h3
              · exact HU.out u hu h3
              · subst h3; exact h1
            have hlim := HL5.out _ (List.getElem_mem hlt)
            generalize kids[j] = p at *
            obtain ⟨pk, pt, plo, phi, pkids, pmn, pmx⟩ := p
            rw [ht_mk] at HNO HU2
            obtain ⟨PA, PB, PK, pa, pb, pc, hc, hv⟩ := hp.open_
            obtain ⟨c0, c1, c2, c3, c4, c5, c6⟩ := hc
            have HC := Lib.hid (HI.out rs pk pt plo phi pkids pmn pmx a PA PB PK c pa pb pc B0 B1 wr.drew ((HR.out.keep (HBX.out.trans (hb.mono HBX.out.size))).keep (Below.refl _ _).drew) hrl (hv.keep (Below.refl _ _).drew) hlim)
            clear hp hv hlim
            go_wp2
            go_region_held3 (fun X => X.cell? ⟨w.heap.size, 0, none⟩ = some (.slice a rs.length c) ∧ X.cell? ⟨w.heap.size + 1, 4, none⟩ = some (.slice (some ⟨b, off, none⟩) kids.length kc) ∧ X.cell? ⟨b, off + j * 7, none⟩ = some (.int .i64 pk) ∧ X.cell? ⟨b, off + j * 7 + 1, none⟩ = some (.string pt) ∧ X.cell? ⟨b, off + j * 7 + 2, none⟩ = some (.slice PA plo.length pa) ∧ X.cell? ⟨b, off + j * 7 + 3, none⟩ = some (.slice PB phi.length pb) ∧ X.cell? ⟨b, off + j * 7 + 4, none⟩ = some (.slice PK pkids.length pc) ∧ X.cell? ⟨b, off + j * 7 + 5, none⟩ = some (.int .i64 pmn) ∧ X.cell? ⟨b, off + j * 7 + 6, none⟩ = some (.int .i64 pmx))
              (first | exact ⟨cell_keep hb2 g0, cell_keep hb2 k4, cell_keep hb2 c0, cell_keep hb2 c1, cell_keep hb2 c2, cell_keep hb2 c3, cell_keep hb2 c4, cell_keep hb2 c5, cell_keep hb2 c6⟩ | exact ⟨g0, k4, c0, c1, c2, c3, c4, c5, c6⟩)
              (first | (go_at_call 67; refine HC.out.mono ?_; rintro e w2 ⟨r, rfl, hr, hb2⟩))
            have hb' : Below W0.heap.size W0 w2 := hb.drew.trans (hb2.mono hb.drew.size)
            have HRR := Lib.hid hr
            clear hb hb2 HC hr g0 k4 c0 c1 c2 c3 c4 c5 c6
            cases r
            · have HNR : Hid (¬ Q) := fun h => by have := HRR.out.2 (HNO.out h); cases this
              go_wp2
              go_ret
              exact ⟨false, rfl, iffF HNR.out, HBX.out.trans (hb'.mono HBX.out.size)⟩
            · have HU3 := Lib.hid (HU2.out (HRR.out.1 rfl))
              go_wp2
              go_roundw
              case rel => exact ⟨j + 1, by omega, by go_num, HU3, hb'⟩
              case measure => simp [intOf]; omega
          · have hlt' : ¬ (j : Int) < (kids.length : Int) := by omega
            have HYES : Hid (AloneP rs 3 t lo hi kids mn mx → Q) := fun h => by
              refine HQ.out.2 ?_
              have h1 : htL kids ≤ d := htL_le.2 (fun p hp => by
                obtain ⟨u, hu, rfl⟩ := List.getElem_of_mem hp
                exact (HU.out u hu (by omega)).1)
              refine ⟨by omega, .mk 3 t lo hi kids mn mx h (fun p hp => ?_)⟩
              obtain ⟨u, hu, rfl⟩ := List.getElem_of_mem hp
              exact (HU.out u hu (by omega)).2
            have HNO : Hid (¬ AloneP rs 3 t lo hi kids mn mx → ¬ Q) := fun h h2 => by
              cases (HQ.out.1 h2).2 with
              | mk _ _ _ _ _ _ _ q => exact h q
            have k0 : wr.cell? ⟨w.heap.size + 1, 0, none⟩ = some (.int .i64 3) := by rw [(OP.out.keep hb).cell]; rfl
            have k1 : wr.cell? ⟨w.heap.size + 1, 1, none⟩ = some (.string t) := by rw [(OP.out.keep hb).cell]; rfl
            have k2 : wr.cell? ⟨w.heap.size + 1, 2, none⟩ = some (.slice A lo.length ca) := by rw [(OP.out.keep hb).cell]; rfl
            have k3 : wr.cell? ⟨w.heap.size + 1, 3, none⟩ = some (.slice B hi.length cb) := by rw [(OP.out.keep hb).cell]; rfl
            have k5 : wr.cell? ⟨w.heap.size + 1, 5, none⟩ = some (.int .i64 mn) := by rw [(OP.out.keep hb).cell]; rfl
            have k6 : wr.cell? ⟨w.heap.size + 1, 6, none⟩ = some (.int .i64 mx) := by rw [(OP.out.keep hb).cell]; rfl
            have hbw : Below w.heap.size w wr := HBX.out.trans (hb.mono HBX.out.size)
            have VW := Lib.hid (HV.out.keep hbw)
            clear HU
            go_wp2_with fail
            refine (l2Rule_any rs t a c B1 wr (HR.out.keep hbw) hrl).mono ?_
            rintro e w2 ⟨r, rfl, hr, hb2⟩
            have hbw2 : Below w.heap.size w w2 := hbw.trans (hb2.mono hbw.size)
            replace k0 := cell_keep hb2 k0
            replace k1 := cell_keep hb2 k1
            replace k2 := cell_keep hb2 k2
            replace k3 := cell_keep hb2 k3
            replace k4 := cell_keep hb2 k4
            replace k5 := cell_keep hb2 k5
            replace k6 := cell_keep hb2 k6
            replace VW := Lib.hid (VW.out.keep hb2)
            have kl2 := cell_lt k4
            simp only at kl2
            have HRR := Lib.hid hr
            clear hr
            have hge := HRR.out.ge
            by_cases r0 : 0 ≤ r
            · have R0 := Lib.hid (hge.1 r0)
              clear hge
              by_cases ln : lo.length = 0 ∧ hi.length = 0 ∧ kids.length = 0
              · have ln' : (((lo.length : Int) + (hi.length : Int) + (kids.length : Int)) == 0) = true := by rw [beq_iff_eq]; omega
                have LN := Lib.hid ln
                clear ln
                go_wp2
                go_ret
                exact ⟨true, rfl, iffT (HYES.out ⟨fun _ => ⟨HMN.out, HMX.out⟩, .inr (.inr (.inl ⟨rfl, R0.out, LN.out.1, LN.out.2.1, LN.out.2.2⟩))⟩), hbw2⟩
              · have ln' : (((lo.length : Int) + (hi.length : Int) + (kids.length : Int)) == 0) = false := by rw [beq_eq_false_iff_ne]; omega
                have LN := Lib.hid ln
                clear ln
                go_wp2
                go_ret
                exact ⟨false, rfl, iffF (HNO.out (fun h => by
                    obtain ⟨h0, h⟩ := h
                    rcases h with ⟨e, h⟩ | ⟨e, h⟩ | ⟨e, h⟩ | ⟨e, h⟩ | ⟨e, h⟩ | ⟨e, h⟩ <;> first | (exfalso; omega) | (exact LN.out h.2))), hbw2⟩
            · have R0 : Hid (¬ ∃ x ∈ rs, x.name = t) := fun h => r0 (hge.2 h)
              clear hge
              have r0' : ¬ (0 : Int) ≤ r := r0
              go_wp2
              go_ret
              exact ⟨false, rfl, iffF (HNO.out (fun h => by
                  obtain ⟨h0, h⟩ := h
                  rcases h with ⟨e, h⟩ | ⟨e, h⟩ | ⟨e, h⟩ | ⟨e, h⟩ | ⟨e, h⟩ | ⟨e, h⟩ <;> first | (exfalso; omega) | (exact absurd h.1 R0.out))), hbw2⟩
      by_cases h4 : k = 4
      · subst h4
        clear h6 n6 h1 h2 h3
        go_enter Try.func67, Try.ntmps67
        go_wp2
        generalize (w.alloc (.cells #[.slice a rs.length c] 64)).alloc (.cells #[.int .i64 4, .string t, .slice A lo.length ca, .slice B hi.length cb, .slice K kids.length kc, .int .i64 mn, .int .i64 mx] 88) = W0 at *
        go_loopw [7] (fun i wr => ∃ j : Nat, j ≤ kids.length ∧ i = .int .i64 j ∧ Hid (∀ u (h : u < kids.length), u < j → kids[u].ht ≤ d ∧ OkP rs kids[u]) ∧ Below W0.heap.size W0 wr) (fun i _ => kids.length - (intOf i).toNat)
        case atStart => exact ⟨0, Nat.zero_le _, rfl, fun u _ hu => by omega, Below.refl _ _⟩
        case round =>
          obtain ⟨j, hj, rfl, HU, hb⟩ := hrel
          have k4 : wr.cell? ⟨w.heap.size + 1, 4, none⟩ = some (.slice K kids.length kc) := by rw [(OP.out.keep hb).cell]; rfl
          have g0 : wr.cell? ⟨w.heap.size, 0, none⟩ = some (.slice a rs.length c) := by rw [(OGm.out.keep hb).cell]; rfl
          have kl := cell_lt k4
          have gl := cell_lt g0
          simp only at kl gl
          by_cases hlt : j < kids.length
          · have hlt' : (j : Int) < (kids.length : Int) := by omega
            obtain ⟨b, off, rfl, hp⟩ := (HV.out.k.keep (HBX.out.trans (hb.mono HBX.out.size))).at_ hlt
            have HNO : Hid (Q → kids[j].ht ≤ d ∧ OkP rs kids[j]) := fun h => by
              replace h := HQ.out.1 h
              refine ⟨htL_le.1 (by omega) _ (List.getElem_mem hlt), ?_⟩
              cases h.2 with
              | mk _ _ _ _ _ _ _ _ q => exact q _ (List.getElem_mem hlt)
            have HU2 : Hid (kids[j].ht ≤ d ∧ OkP rs kids[j] → ∀ u (h : u < kids.length), u < j + 1 → kids[u].ht ≤ d ∧ OkP rs kids[u]) := fun h1 u hu huj => by
              rcases Nat.lt_succ_iff_lt_or_eq.1 huj with h3 | h3
              · exact HU.out u hu h3
              · subst h3; exact h1
            have hlim := HL5.out _ (List.getElem_mem hlt)
            generalize kids[j] = p at *
            obtain ⟨pk, pt, plo, phi, pkids, pmn, pmx⟩ := p
            rw [ht_mk] at HNO HU2
            obtain ⟨PA, PB, PK, pa, pb, pc, hc, hv⟩ := hp.open_
            obtain ⟨c0, c1, c2, c3, c4, c5, c6⟩ := hc
            have HC := Lib.hid (HI.out rs pk pt plo phi pkids pmn pmx a PA PB PK c pa pb pc B0 B1 wr.drew ((HR.out.keep (HBX.out.trans (hb.mono HBX.out.size))).keep (Below.refl _ _).drew) hrl (hv.keep (Below.refl _ _).drew) hlim)
            clear hp hv hlim
            go_wp2
            go_region_held3 (fun X => X.cell? ⟨w.heap.size, 0, none⟩ = some (.slice a rs.length c) ∧ X.cell? ⟨w.heap.size + 1, 4, none⟩ = some (.slice (some ⟨b, off, none⟩) kids.length kc) ∧ X.cell? ⟨b, off + j * 7, none⟩ = some (.int .i64 pk) ∧ X.cell? ⟨b, off + j * 7 + 1, none⟩ = some (.string pt) ∧ X.cell? ⟨b, off + j * 7 + 2, none⟩ = some (.slice PA plo.length pa) ∧ X.cell? ⟨b, off + j * 7 + 3, none⟩ = some (.slice PB phi.length pb) ∧ X.cell? ⟨b, off + j * 7 + 4, none⟩ = some (.slice PK pkids.length pc) ∧ X.cell? ⟨b, off + j * 7 + 5, none⟩ = some (.int .i64 pmn) ∧ X.cell? ⟨b, off + j * 7 + 6, none⟩ = some (.int .i64 pmx))
              (first | exact ⟨cell_keep hb2 g0, cell_keep hb2 k4, cell_keep hb2 c0, cell_keep hb2 c1, cell_keep hb2 c2, cell_keep hb2 c3, cell_keep hb2 c4, cell_keep hb2 c5, cell_keep hb2 c6⟩ | exact ⟨g0, k4, c0, c1, c2, c3, c4, c5, c6⟩)
              (first | (go_at_call 67; refine HC.out.mono ?_; rintro e w2 ⟨r, rfl, hr, hb2⟩))
            have hb' : Below W0.heap.size W0 w2 := hb.drew.trans (hb2.mono hb.drew.size)
            have HRR := Lib.hid hr
            clear hb hb2 HC hr g0 k4 c0 c1 c2 c3 c4 c5 c6
            cases r
            · have HNR : Hid (¬ Q) := fun h => by have := HRR.out.2 (HNO.out h); cases this
              go_wp2
              go_ret
              exact ⟨false, rfl, iffF HNR.out, HBX.out.trans (hb'.mono HBX.out.size)⟩
            · have HU3 := Lib.hid (HU2.out (HRR.out.1 rfl))
              go_wp2
              go_roundw
              case rel => exact ⟨j + 1, by omega, by go_num, HU3, hb'⟩
              case measure => simp [intOf]; omega
          · have hlt' : ¬ (j : Int) < (kids.length : Int) := by omega
            have HYES : Hid (AloneP rs 4 t lo hi kids mn mx → Q) := fun h => by
              refine HQ.out.2 ?_
              have h1 : htL kids ≤ d := htL_le.2 (fun p hp => by
                obtain ⟨u, hu, rfl⟩ := List.getElem_of_mem hp
                exact (HU.out u hu (by omega)).1)
              refine ⟨by omega, .mk 4 t lo hi kids mn mx h (fun p hp => ?_)⟩
              obtain ⟨u, hu, rfl⟩ := List.getElem_of_mem hp
              exact (HU.out u hu (by omega)).2
            have HNO : Hid (¬ AloneP rs 4 t lo hi kids mn mx → ¬ Q) := fun h h2 => by
              cases (HQ.out.1 h2).2 with
              | mk _ _ _ _ _ _ _ q => exact h q
            have k0 : wr.cell? ⟨w.heap.size + 1, 0, none⟩ = some (.int .i64 4) := by rw [(OP.out.keep hb).cell]; rfl
            have k1 : wr.cell? ⟨w.heap.size + 1, 1, none⟩ = some (.string t) := by rw [(OP.out.keep hb).cell]; rfl
            have k2 : wr.cell? ⟨w.heap.size + 1, 2, none⟩ = some (.slice A lo.length ca) := by rw [(OP.out.keep hb).cell]; rfl
            have k3 : wr.cell? ⟨w.heap.size + 1, 3, none⟩ = some (.slice B hi.length cb) := by rw [(OP.out.keep hb).cell]; rfl
            have k5 : wr.cell? ⟨w.heap.size + 1, 5, none⟩ = some (.int .i64 mn) := by rw [(OP.out.keep hb).cell]; rfl
            have k6 : wr.cell? ⟨w.heap.size + 1, 6, none⟩ = some (.int .i64 mx) := by rw [(OP.out.keep hb).cell]; rfl
            have hbw : Below w.heap.size w wr := HBX.out.trans (hb.mono HBX.out.size)
            have VW := Lib.hid (HV.out.keep hbw)
            clear HU
            go_wp2_with fail
            refine (l2Bare_any 4 t lo hi kids.length mn mx A B K ca cb kc wr l2 l3).mono ?_
            rintro e w2 ⟨r, rfl, hr, hb2⟩
            have hbw2 : Below w.heap.size w w2 := hbw.trans (hb2.mono hbw.size)
            replace k0 := cell_keep hb2 k0
            replace k1 := cell_keep hb2 k1
            replace k2 := cell_keep hb2 k2
            replace k3 := cell_keep hb2 k3
            replace k4 := cell_keep hb2 k4
            replace k5 := cell_keep hb2 k5
            replace k6 := cell_keep hb2 k6
            replace VW := Lib.hid (VW.out.keep hb2)
            have kl2 := cell_lt k4
            simp only at kl2
            have HRR := Lib.hid hr
            clear hr
            cases r
            · have HT1 : Hid (¬ _) := fun p => by have := HRR.out.2 p; cases this
              go_wp2
              go_ret
              exact ⟨false, rfl, iffF (HNO.out (fun h => by
                  obtain ⟨h0, h⟩ := h
                  rcases h with ⟨e, h⟩ | ⟨e, h⟩ | ⟨e, h⟩ | ⟨e, h⟩ | ⟨e, h⟩ | ⟨e, h⟩ <;> first | (exfalso; omega) | (exact HT1.out h.1))), hbw2⟩
            · have HT1 := Lib.hid (HRR.out.1 rfl)
              by_cases n1 : kids.length ≠ 1
              · have n1' : ((kids.length : Int) != 1) = true := by rw [bne_iff_ne]; omega
                go_wp2_with fail
                refine (l2Flat_any 4 t lo hi kids mn mx A B K ca cb kc B0 w2 VW.out.k l4).mono ?_
                rintro e w3 ⟨r, rfl, hr, hb3⟩
                have hbw3 : Below w.heap.size w w3 := hbw2.trans (hb3.mono hbw2.size)
                have HR3 := Lib.hid hr
                clear hr hb3 k0 k1 k2 k3 k4 k5 k6
                cases r
                · have HT3 : Hid (¬ _) := fun p => by have := HR3.out.2 p; cases this
                  go_wp2
                  go_ret
                  exact ⟨false, rfl, iffF (HNO.out (fun h => by
                      obtain ⟨h0, h⟩ := h
                      rcases h with ⟨e, h⟩ | ⟨e, h⟩ | ⟨e, h⟩ | ⟨e, h⟩ | ⟨e, h⟩ | ⟨e, h⟩ <;> first | (exfalso; omega) | (exact HT3.out h.2.2))), hbw3⟩
                · have HT3 := Lib.hid (HR3.out.1 rfl)
                  go_wp2
                  go_ret
                  exact ⟨true, rfl, iffT (HYES.out ⟨fun _ => ⟨HMN.out, HMX.out⟩, .inr (.inr (.inr (.inl ⟨rfl, HT1.out, n1, HT3.out⟩)))⟩), hbw3⟩
              · have n1' : ((kids.length : Int) != 1) = false := by rw [bne_eq_false_iff_eq]; omega
                go_wp2
                go_ret
                exact ⟨false, rfl, iffF (HNO.out (fun h => by
                    obtain ⟨h0, h⟩ := h
                    rcases h with ⟨e, h⟩ | ⟨e, h⟩ | ⟨e, h⟩ | ⟨e, h⟩ | ⟨e, h⟩ | ⟨e, h⟩ <;> first | (exfalso; omega) | (have := h.2.1; omega))), hbw2⟩
      by_cases h5 : k = 5
      · subst h5
        clear h6 n6 h1 h2 h3 h4
        go_enter Try.func67, Try.ntmps67
        go_wp2
        generalize (w.alloc (.cells #[.slice a rs.length c] 64)).alloc (.cells #[.int .i64 5, .string t, .slice A lo.length ca, .slice B hi.length cb, .slice K kids.length kc, .int .i64 mn, .int .i64 mx] 88) = W0 at *
        go_loopw [7] (fun i wr => ∃ j : Nat, j ≤ kids.length ∧ i = .int .i64 j ∧ Hid (∀ u (h : u < kids.length), u < j → kids[u].ht ≤ d ∧ OkP rs kids[u]) ∧ Below W0.heap.size W0 wr) (fun i _ => kids.length - (intOf i).toNat)
        case atStart => exact ⟨0, Nat.zero_le _, rfl, fun u _ hu => by omega, Below.refl _ _⟩
        case round =>
          obtain ⟨j, hj, rfl, HU, hb⟩ := hrel
          have k4 : wr.cell? ⟨w.heap.size + 1, 4, none⟩ = some (.slice K kids.length kc) := by rw [(OP.out.keep hb).cell]; rfl
          have g0 : wr.cell? ⟨w.heap.size, 0, none⟩ = some (.slice a rs.length c) := by rw [(OGm.out.keep hb).cell]; rfl
          have kl := cell_lt k4
          have gl := cell_lt g0
          simp only at kl gl
          by_cases hlt : j < kids.length
          · have hlt' : (j : Int) < (kids.length : Int) := by omega
            obtain ⟨b, off, rfl, hp⟩ := (HV.out.k.keep (HBX.out.trans (hb.mono HBX.out.size))).at_ hlt
            have HNO : Hid (Q → kids[j].ht ≤ d ∧ OkP rs kids[j]) := fun h => by
              replace h := HQ.out.1 h
              refine ⟨htL_le.1 (by omega) _ (List.getElem_mem hlt), ?_⟩
              cases h.2 with
              | mk _ _ _ _ _ _ _ _ q => exact q _ (List.getElem_mem hlt)
            have HU2 : Hid (kids[j].ht ≤ d ∧ OkP rs kids[j] → ∀ u (h : u < kids.length), u < j + 1 → kids[u].ht ≤ d ∧ OkP rs kids[u]) := fun h1 u hu huj => by
              rcases Nat.lt_succ_iff_lt_or_eq.1 huj with h3 | h3
              · exact HU.out u hu h3
              · subst h3; exact h1
            have hlim := HL5.out _ (List.getElem_mem hlt)
            generalize kids[j] = p at *
            obtain ⟨pk, pt, plo, phi, pkids, pmn, pmx⟩ := p
            rw [ht_mk] at HNO HU2
            obtain ⟨PA, PB, PK, pa, pb, pc, hc, hv⟩ := hp.open_
            obtain ⟨c0, c1, c2, c3, c4, c5, c6⟩ := hc
            have HC := Lib.hid (HI.out rs pk pt plo phi pkids pmn pmx a PA PB PK c pa pb pc B0 B1 wr.drew ((HR.out.keep (HBX.out.trans (hb.mono HBX.out.size))).keep (Below.refl _ _).drew) hrl (hv.keep (Below.refl _ _).drew) hlim)
            clear hp hv hlim
            go_wp2
            go_region_held3 (fun X => X.cell? ⟨w.heap.size, 0, none⟩ = some (.slice a rs.length c) ∧ X.cell? ⟨w.heap.size + 1, 4, none⟩ = some (.slice (some ⟨b, off, none⟩) kids.length kc) ∧ X.cell? ⟨b, off + j * 7, none⟩ = some (.int .i64 pk) ∧ X.cell? ⟨b, off + j * 7 + 1, none⟩ = some (.string pt) ∧ X.cell? ⟨b, off + j * 7 + 2, none⟩ = some (.slice PA plo.length pa) ∧ X.cell? ⟨b, off + j * 7 + 3, none⟩ = some (.slice PB phi.length pb) ∧ X.cell? ⟨b, off + j * 7 + 4, none⟩ = some (.slice PK pkids.length pc) ∧ X.cell? ⟨b, off + j * 7 + 5, none⟩ = some (.int .i64 pmn) ∧ X.cell? ⟨b, off + j * 7 + 6, none⟩ = some (.int .i64 pmx))
              (first | exact ⟨cell_keep hb2 g0, cell_keep hb2 k4, cell_keep hb2 c0, cell_keep hb2 c1, cell_keep hb2 c2, cell_keep hb2 c3, cell_keep hb2 c4, cell_keep hb2 c5, cell_keep hb2 c6⟩ | exact ⟨g0, k4, c0, c1, c2, c3, c4, c5, c6⟩)
              (first | (go_at_call 67; refine HC.out.mono ?_; rintro e w2 ⟨r, rfl, hr, hb2⟩))
            have hb' : Below W0.heap.size W0 w2 := hb.drew.trans (hb2.mono hb.drew.size)
            have HRR := Lib.hid hr
            clear hb hb2 HC hr g0 k4 c0 c1 c2 c3 c4 c5 c6
            cases r
            · have HNR : Hid (¬ Q) := fun h => by have := HRR.out.2 (HNO.out h); cases this
              go_wp2
              go_ret
              exact ⟨false, rfl, iffF HNR.out, HBX.out.trans (hb'.mono HBX.out.size)⟩
            · have HU3 := Lib.hid (HU2.out (HRR.out.1 rfl))
              go_wp2
              go_roundw
              case rel => exact ⟨j + 1, by omega, by go_num, HU3, hb'⟩
              case measure => simp [intOf]; omega
          · have hlt' : ¬ (j : Int) < (kids.length : Int) := by omega
            have HYES : Hid (AloneP rs 5 t lo hi kids mn mx → Q) := fun h => by
              refine HQ.out.2 ?_
              have h1 : htL kids ≤ d := htL_le.2 (fun p hp => by
                obtain ⟨u, hu, rfl⟩ := List.getElem_of_mem hp
                exact (HU.out u hu (by omega)).1)
              refine ⟨by omega, .mk 5 t lo hi kids mn mx h (fun p hp => ?_)⟩
              obtain ⟨u, hu, rfl⟩ := List.getElem_of_mem hp
              exact (HU.out u hu (by omega)).2
            have HNO : Hid (¬ AloneP rs 5 t lo hi kids mn mx → ¬ Q) := fun h h2 => by
              cases (HQ.out.1 h2).2 with
              | mk _ _ _ _ _ _ _ q => exact h q
            have k0 : wr.cell? ⟨w.heap.size + 1, 0, none⟩ = some (.int .i64 5) := by rw [(OP.out.keep hb).cell]; rfl
            have k1 : wr.cell? ⟨w.heap.size + 1, 1, none⟩ = some (.string t) := by rw [(OP.out.keep hb).cell]; rfl
            have k2 : wr.cell? ⟨w.heap.size + 1, 2, none⟩ = some (.slice A lo.length ca) := by rw [(OP.out.keep hb).cell]; rfl
            have k3 : wr.cell? ⟨w.heap.size + 1, 3, none⟩ = some (.slice B hi.length cb) := by rw [(OP.out.keep hb).cell]; rfl
            have k5 : wr.cell? ⟨w.heap.size + 1, 5, none⟩ = some (.int .i64 mn) := by rw [(OP.out.keep hb).cell]; rfl
            have k6 : wr.cell? ⟨w.heap.size + 1, 6, none⟩ = some (.int .i64 mx) := by rw [(OP.out.keep hb).cell]; rfl
            have hbw : Below w.heap.size w wr := HBX.out.trans (hb.mono HBX.out.size)
            have VW := Lib.hid (HV.out.keep hbw)
            clear HU
            go_wp2_with fail
            refine (l2Bare_any 5 t lo hi kids.length mn mx A B K ca cb kc wr l2 l3).mono ?_
            rintro e w2 ⟨r, rfl, hr, hb2⟩
            have hbw2 : Below w.heap.size w w2 := hbw.trans (hb2.mono hbw.size)
            replace k0 := cell_keep hb2 k0
            replace k1 := cell_keep hb2 k1
            replace k2 := cell_keep hb2 k2
            replace k3 := cell_keep hb2 k3
            replace k4 := cell_keep hb2 k4
            replace k5 := cell_keep hb2 k5
            replace k6 := cell_keep hb2 k6
            replace VW := Lib.hid (VW.out.keep hb2)
            have kl2 := cell_lt k4
            simp only at kl2
            have HRR := Lib.hid hr
            clear hr
            cases r
            · have HT1 : Hid (¬ _) := fun p => by have := HRR.out.2 p; cases this
              go_wp2
              go_ret
              exact ⟨false, rfl, iffF (HNO.out (fun h => by
                  obtain ⟨h0, h⟩ := h
                  rcases h with ⟨e, h⟩ | ⟨e, h⟩ | ⟨e, h⟩ | ⟨e, h⟩ | ⟨e, h⟩ | ⟨e, h⟩ <;> first | (exfalso; omega) | (exact HT1.out h.1))), hbw2⟩
            · have HT1 := Lib.hid (HRR.out.1 rfl)
              by_cases n1 : 2 ≤ kids.length
              · have n1' : (2 : Int) ≤ (kids.length : Int) := by omega
                go_wp2_with fail
                refine (l2Flat_any 5 t lo hi kids mn mx A B K ca cb kc B0 w2 VW.out.k l4).mono ?_
                rintro e w3 ⟨r, rfl, hr, hb3⟩
                have hbw3 : Below w.heap.size w w3 := hbw2.trans (hb3.mono hbw2.size)
                have HR3 := Lib.hid hr
                clear hr hb3 k0 k1 k2 k3 k4 k5 k6
                cases r
                · have HT3 : Hid (¬ _) := fun p => by have := HR3.out.2 p; cases this
                  go_wp2
                  go_ret
                  exact ⟨false, rfl, iffF (HNO.out (fun h => by
                      obtain ⟨h0, h⟩ := h
                      rcases h with ⟨e, h⟩ | ⟨e, h⟩ | ⟨e, h⟩ | ⟨e, h⟩ | ⟨e, h⟩ | ⟨e, h⟩ <;> first | (exfalso; omega) | (exact HT3.out h.2.2))), hbw3⟩
                · have HT3 := Lib.hid (HR3.out.1 rfl)
                  go_wp2
                  go_ret
                  exact ⟨true, rfl, iffT (HYES.out ⟨fun _ => ⟨HMN.out, HMX.out⟩, .inr (.inr (.inr (.inr (.inl ⟨rfl, HT1.out, n1, HT3.out⟩))))⟩), hbw3⟩
              · have n1' : ¬ (2 : Int) ≤ (kids.length : Int) := by omega
                go_wp2
                go_ret
                exact ⟨false, rfl, iffF (HNO.out (fun h => by
                    obtain ⟨h0, h⟩ := h
                    rcases h with ⟨e, h⟩ | ⟨e, h⟩ | ⟨e, h⟩ | ⟨e, h⟩ | ⟨e, h⟩ | ⟨e, h⟩ <;> first | (exfalso; omega) | (have := h.2.1; omega))), hbw2⟩
      go_enter Try.func67, Try.ntmps67
      go_wp2
      generalize (w.alloc (.cells #[.slice a rs.length c] 64)).alloc (.cells #[.int .i64 k, .string t, .slice A lo.length ca, .slice B hi.length cb, .slice K kids.length kc, .int .i64 mn, .int .i64 mx] 88) = W0 at *
      go_loopw [7] (fun i wr => ∃ j : Nat, j ≤ kids.length ∧ i = .int .i64 j ∧ Hid (∀ u (h : u < kids.length), u < j → kids[u].ht ≤ d ∧ OkP rs kids[u]) ∧ Below W0.heap.size W0 wr) (fun i _ => kids.length - (intOf i).toNat)
      case atStart => exact ⟨0, Nat.zero_le _, rfl, fun u _ hu => by omega, Below.refl _ _⟩
      case round =>
        obtain ⟨j, hj, rfl, HU, hb⟩ := hrel
        have k4 : wr.cell? ⟨w.heap.size + 1, 4, none⟩ = some (.slice K kids.length kc) := by rw [(OP.out.keep hb).cell]; rfl
        have g0 : wr.cell? ⟨w.heap.size, 0, none⟩ = some (.slice a rs.length c) := by rw [(OGm.out.keep hb).cell]; rfl
        have kl := cell_lt k4
        have gl := cell_lt g0
        simp only at kl gl
        by_cases hlt : j < kids.length
        · have hlt' : (j : Int) < (kids.length : Int) := by omega
          obtain ⟨b, off, rfl, hp⟩ := (HV.out.k.keep (HBX.out.trans (hb.mono HBX.out.size))).at_ hlt
          have HNO : Hid (Q → kids[j].ht ≤ d ∧ OkP rs kids[j]) := fun h => by
            replace h := HQ.out.1 h
            refine ⟨htL_le.1 (by omega) _ (List.getElem_mem hlt), ?_⟩
            cases h.2 with
            | mk _ _ _ _ _ _ _ _ q => exact q _ (List.getElem_mem hlt)
          have HU2 : Hid (kids[j].ht ≤ d ∧ OkP rs kids[j] → ∀ u (h : u < kids.length), u < j + 1 → kids[u].ht ≤ d ∧ OkP rs kids[u]) := fun h1 u hu huj => by
            rcases Nat.lt_succ_iff_lt_or_eq.1 huj with h3 | h3
            · exact HU.out u hu h3
            · subst h3; exact h1
          have hlim := HL5.out _ (List.getElem_mem hlt)
          generalize kids[j] = p at *
          obtain ⟨pk, pt, plo, phi, pkids, pmn, pmx⟩ := p
          rw [ht_mk] at HNO HU2
          obtain ⟨PA, PB, PK, pa, pb, pc, hc, hv⟩ := hp.open_
          obtain ⟨c0, c1, c2, c3, c4, c5, c6⟩ := hc
          have HC := Lib.hid (HI.out rs pk pt plo phi pkids pmn pmx a PA PB PK c pa pb pc B0 B1 wr.drew ((HR.out.keep (HBX.out.trans (hb.mono HBX.out.size))).keep (Below.refl _ _).drew) hrl (hv.keep (Below.refl _ _).drew) hlim)
          clear hp hv hlim
          go_wp2
          go_region_held3 (fun X => X.cell? ⟨w.heap.size, 0, none⟩ = some (.slice a rs.length c) ∧ X.cell? ⟨w.heap.size + 1, 4, none⟩ = some (.slice (some ⟨b, off, none⟩) kids.length kc) ∧ X.cell? ⟨b, off + j * 7, none⟩ = some (.int .i64 pk) ∧ X.cell? ⟨b, off + j * 7 + 1, none⟩ = some (.string pt) ∧ X.cell? ⟨b, off + j * 7 + 2, none⟩ = some (.slice PA plo.length pa) ∧ X.cell? ⟨b, off + j * 7 + 3, none⟩ = some (.slice PB phi.length pb) ∧ X.cell? ⟨b, off + j * 7 + 4, none⟩ = some (.slice PK pkids.length pc) ∧ X.cell? ⟨b, off + j * 7 + 5, none⟩ = some (.int .i64 pmn) ∧ X.cell? ⟨b, off + j * 7 + 6, none⟩ = some (.int .i64 pmx))
            (first | exact ⟨cell_keep hb2 g0, cell_keep hb2 k4, cell_keep hb2 c0, cell_keep hb2 c1, cell_keep hb2 c2, cell_keep hb2 c3, cell_keep hb2 c4, cell_keep hb2 c5, cell_keep hb2 c6⟩ | exact ⟨g0, k4, c0, c1, c2, c3, c4, c5, c6⟩)
            (first | (go_at_call 67; refine HC.out.mono ?_; rintro e w2 ⟨r, rfl, hr, hb2⟩))
          have hb' : Below W0.heap.size W0 w2 := hb.drew.trans (hb2.mono hb.drew.size)
          have HRR := Lib.hid hr
          clear hb hb2 HC hr g0 k4 c0 c1 c2 c3 c4 c5 c6
          cases r
          · have HNR : Hid (¬ Q) := fun h => by have := HRR.out.2 (HNO.out h); cases this
            go_wp2
            go_ret
            exact ⟨false, rfl, iffF HNR.out, HBX.out.trans (hb'.mono HBX.out.size)⟩
          · have HU3 := Lib.hid (HU2.out (HRR.out.1 rfl))
            go_wp2
            go_roundw
            case rel => exact ⟨j + 1, by omega, by go_num, HU3, hb'⟩
            case measure => simp [intOf]; omega
        · have hlt' : ¬ (j : Int) < (kids.length : Int) := by omega
          have HYES : Hid (AloneP rs k t lo hi kids mn mx → Q) := fun h => by
            refine HQ.out.2 ?_
            have h1 : htL kids ≤ d := htL_le.2 (fun p hp => by
              obtain ⟨u, hu, rfl⟩ := List.getElem_of_mem hp
              exact (HU.out u hu (by omega)).1)
            refine ⟨by omega, .mk k t lo hi kids mn mx h (fun p hp => ?_)⟩
            obtain ⟨u, hu, rfl⟩ := List.getElem_of_mem hp
            exact (HU.out u hu (by omega)).2
          have HNO : Hid (¬ AloneP rs k t lo hi kids mn mx → ¬ Q) := fun h h2 => by
            cases (HQ.out.1 h2).2 with
            | mk _ _ _ _ _ _ _ q => exact h q
          have k0 : wr.cell? ⟨w.heap.size + 1, 0, none⟩ = some (.int .i64 k) := by rw [(OP.out.keep hb).cell]; rfl
          have k1 : wr.cell? ⟨w.heap.size + 1, 1, none⟩ = some (.string t) := by rw [(OP.out.keep hb).cell]; rfl
          have k2 : wr.cell? ⟨w.heap.size + 1, 2, none⟩ = some (.slice A lo.length ca) := by rw [(OP.out.keep hb).cell]; rfl
          have k3 : wr.cell? ⟨w.heap.size + 1, 3, none⟩ = some (.slice B hi.length cb) := by rw [(OP.out.keep hb).cell]; rfl
          have k5 : wr.cell? ⟨w.heap.size + 1, 5, none⟩ = some (.int .i64 mn) := by rw [(OP.out.keep hb).cell]; rfl
          have k6 : wr.cell? ⟨w.heap.size + 1, 6, none⟩ = some (.int .i64 mx) := by rw [(OP.out.keep hb).cell]; rfl
          have hbw : Below w.heap.size w wr := HBX.out.trans (hb.mono HBX.out.size)
          have VW := Lib.hid (HV.out.keep hbw)
          clear HU
          have n1 : (k == 1) = false := by simp [h1]
          have n2 : (k == 2) = false := by simp [h2]
          have n3 : (k == 3) = false := by simp [h3]
          have n4 : (k == 4) = false := by simp [h4]
          have n5 : (k == 5) = false := by simp [h5]
          have n6 : (k == 6) = false := by simp [h6]
          have H1 := Lib.hid h1
          have H2 := Lib.hid h2
          have H3 := Lib.hid h3
          have H4 := Lib.hid h4
          have H5 := Lib.hid h5
          have H6 := Lib.hid h6
          clear h1 h2 h3 h4 h5 h6
          go_wp2
          go_ret
          exact ⟨false, rfl, iffF (HNO.out (fun h => by
            obtain ⟨_, h⟩ := h
            rcases h with ⟨e, _⟩ | ⟨e, _⟩ | ⟨e, _⟩ | ⟨e, _⟩ | ⟨e, _⟩ | ⟨e, _⟩
            · exact H1.out e
            · exact H2.out e
            · exact H3.out e
            · exact H4.out e
            · exact H5.out e
            · exact H6.out e)), hbw⟩
    · have n6 : (k != 6) = true := by simp [h6]
      have HNO : Hid (¬ Q) := fun h => by
        cases (HQ.out.1 h).2 with
        | mk _ _ _ _ _ _ _ q => exact hmm (q.1 h6)
      by_cases hmn : mn = 0
      · have m0 : (mn != 0) = false := by simp [hmn]
        have x0 : (mx != 0) = true := by simp; exact fun h => hmm ⟨hmn, h⟩
        clear hmm h6 hmn
        go_enter Try.func67, Try.ntmps67
        go_wp2
        go_ret
        exact ⟨false, rfl, iffF HNO.out, HBX.out⟩
      · have m0 : (mn != 0) = true := by simp [hmn]
        clear hmm h6 hmn
        go_enter Try.func67, Try.ntmps67
        go_wp2
        go_ret
        exact ⟨false, rfl, iffF HNO.out, HBX.out⟩

theorem part_all : ∀ d, d ≤ 9 → PaP d
  | 0, _ => part0
  | d + 1, h => partS (part_all d (by omega)) (by omega)

end Go.Proofs.Ytkgiklmdpdakbaa

