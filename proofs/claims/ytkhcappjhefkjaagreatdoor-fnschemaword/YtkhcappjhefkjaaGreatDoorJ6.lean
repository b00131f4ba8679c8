/- The specification's l31Deep (written by tools/json/gen_j6.py). -/
import Derived.Test.YtkhcappjhefkjaaGreatDoorJ5
import Derived.Deep.DeepCutAuto
namespace Go.Proofs.YtkhcappjhefkjaaGreatDoor
open Go.RowKit
set_option linter.unusedVariables false

/-- l31Deep, at most so deep. -/
def DeP (d : Nat) : Prop := ∀ (k : Int) (f : Bool) (t : ByteArray) (ns : List ByteArray) (kids : List Js) (A K : Option Addr) (ca kc B0 : Nat) (w : World), JsV w B0 ns kids A K → LimJ 1048576 (.mk k f t ns kids) →
  Calls Tryz.prog 65 #[.agg #[.int .i64 k, .bool f, .string t, .slice A ns.length ca, .slice K kids.length kc], .int .i64 (d : Nat)] w (BoolPost (htJ kids + 1 ≤ d ∧ JokP (.mk k f t ns kids) ∧ NarJ (.mk k f t ns kids)) w)

set_option maxRecDepth 100000 in
set_option maxHeartbeats 1000000 in
theorem deep0 : DeP 0 := by
  intro k f t ns kids A K ca kc B0 w hv hl
  go_enter Tryz.func65, Tryz.ntmps65
  go_wp2
  go_ret
  exact ⟨false, rfl, iffF (fun h => by have := h.1; omega), below_box _⟩

set_option maxRecDepth 100000 in
set_option maxHeartbeats 4000000 in
theorem deepS {d : Nat} (IH : DeP d) (hd : d ≤ 8) : DeP (d + 1) := by
  intro k f t ns kids A K ca kc B0 w hv hl
  have HI := Lib.hid IH
  cases hl with
  | mk _ _ _ _ _ l1 l2 l3 l4 l5 =>
  have HL5 := Lib.hid l5
  have HL3 := Lib.hid l3
  clear IH l5 l3
  have hd1 : ¬ ((d : Int) + 1) < 1 := by omega
  have hbx : Below w.heap.size w (w.alloc (.cells #[.int .i64 k, .bool f, .string t, .slice A ns.length ca, .slice K kids.length kc] 42)) := below_box _
  have HV := Lib.hid (hv.keep hbx)
  clear hv
  obtain ⟨bad, hbad⟩ : ∃ bad : Bool, (bad = false ↔ 0 ≤ (d : Int) ∧ BareJ k f t ns kids) := by
    rcases Classical.em (BareJ k f t ns kids) with h | h
    · exact ⟨false, fun _ => ⟨by omega, h⟩, fun _ => rfl⟩
    · exact ⟨true, ⟨(fun h => by cases h), fun h' => absurd h'.2 h⟩⟩
  have HBAD := Lib.hid hbad
  clear hbad
  obtain ⟨Q, hQ⟩ : ∃ Q : Prop, Q ↔ (htJ kids + 1 ≤ d + 1 ∧ JokP (.mk k f t ns kids) ∧ NarJ (.mk k f t ns kids)) := ⟨_, Iff.rfl⟩
  rw [show (htJ kids + 1 ≤ d + 1 ∧ JokP (.mk k f t ns kids) ∧ NarJ (.mk k f t ns kids)) = Q from (propext hQ).symm]
  have HQ0 := Lib.hid hQ
  clear hQ
  go_enter Tryz.func65, Tryz.ntmps65
  go_upto_region 1 with fail
  go_cut [53] (fun c wx => c = .bool bad ∧ wx = w.alloc (.cells #[.int .i64 k, .bool f, .string t, .slice A ns.length ca, .slice K kids.length kc] 42))
  case first =>
    cases f
    ·
      by_cases t0 : t.size = 0
      · have t0' : t.toList.isEmpty = true := by rw [empty_iff]; simp [t0]
        by_cases e5 : k < 5
        ·
          by_cases k0 : kids.length = 0
          · obtain rfl := List.eq_nil_of_length_eq_zero k0
            have e6' : (k != 6) = true := by rw [bne_iff_ne]; omega
            by_cases n0 : ns.length = 0
            · obtain rfl := List.eq_nil_of_length_eq_zero n0
              have hv : bad = false := HBAD.out.2 ⟨by omega, ⟨(by intro h; first | rfl | cases h), (by intro h; omega), (by intro h; first | rfl | omega), (by intro h; first | rfl | omega)⟩⟩
              subst hv
              clear HBAD
              (try clear k0)
              (try clear n0)
              (try clear t0)
              (try clear e2)
              (try clear e3)
              (try clear e4)
              (try clear e6)
              go_wp2_with fail
              go_meet
              exact ⟨(by first | rfl | (congr 1; simp; omega)), rfl⟩
            · have n0' : 0 < ns.length := by omega
              have hv : bad = true := by
                cases hb0 : bad
                · exfalso; have q := (HBAD.out.1 hb0).2; have := q.2.2.2 (by omega); omega
                · rfl
              subst hv
              clear HBAD
              (try clear k0)
              (try clear n0)
              (try clear t0)
              (try clear e2)
              (try clear e3)
              (try clear e4)
              (try clear e6)
              go_wp2_with fail
              go_meet
              exact ⟨(by first | rfl | (congr 1; simp; omega)), rfl⟩
          · have k0' : 0 < kids.length := by omega
            have hv : bad = true := by
              cases hb0 : bad
              · exfalso; have q := (HBAD.out.1 hb0).2; have := q.2.2.1 (by omega); omega
              · rfl
            subst hv
            clear HBAD
            (try clear k0)
            (try clear n0)
            (try clear t0)
            (try clear e2)
            (try clear e3)
            (try clear e4)
            (try clear e6)
            go_wp2_with fail
            go_meet
            exact ⟨(by first | rfl | (congr 1; simp; omega)), rfl⟩
        ·
          by_cases e6 : k = 6
          · subst e6
            have hv : bad = false := HBAD.out.2 ⟨by omega, ⟨(by intro h; first | rfl | cases h), (by intro h; omega), (by intro h; first | rfl | omega), (by intro h; first | rfl | omega)⟩⟩
            subst hv
            clear HBAD
            (try clear k0)
            (try clear n0)
            (try clear t0)
            (try clear e2)
            (try clear e3)
            (try clear e4)
            (try clear e6)
            go_wp2_with fail
            go_meet
            exact ⟨(by first | rfl | (congr 1; simp; omega)), rfl⟩
          · have e6' : (k != 6) = true := by simp [e6]
            by_cases n0 : ns.length = 0
            · obtain rfl := List.eq_nil_of_length_eq_zero n0
              have hv : bad = false := HBAD.out.2 ⟨by omega, ⟨(by intro h; first | rfl | cases h), (by intro h; omega), (by intro h; first | rfl | omega), (by intro h; first | rfl | omega)⟩⟩
              subst hv
              clear HBAD
              (try clear k0)
              (try clear n0)
              (try clear t0)
              (try clear e2)
              (try clear e3)
              (try clear e4)
              (try clear e6)
              go_wp2_with fail
              go_meet
              exact ⟨(by first | rfl | (congr 1; simp; omega)), rfl⟩
            · have n0' : 0 < ns.length := by omega
              have hv : bad = true := by
                cases hb0 : bad
                · exfalso; have q := (HBAD.out.1 hb0).2; have := q.2.2.2 (by omega); omega
                · rfl
              subst hv
              clear HBAD
              (try clear k0)
              (try clear n0)
              (try clear t0)
              (try clear e2)
              (try clear e3)
              (try clear e4)
              (try clear e6)
              go_wp2_with fail
              go_meet
              exact ⟨(by first | rfl | (congr 1; simp; omega)), rfl⟩
      · have t0' : t.toList.isEmpty = false := by rw [empty_iff]; simp [t0]
        by_cases e3 : k = 3
        · subst e3
          by_cases k0 : kids.length = 0
          · obtain rfl := List.eq_nil_of_length_eq_zero k0
            by_cases n0 : ns.length = 0
            · obtain rfl := List.eq_nil_of_length_eq_zero n0
              have hv : bad = false := HBAD.out.2 ⟨by omega, ⟨(by intro h; first | rfl | cases h), (by intro h; omega), (by intro h; first | rfl | omega), (by intro h; first | rfl | omega)⟩⟩
              subst hv
              clear HBAD
              (try clear k0)
              (try clear n0)
              (try clear t0)
              (try clear e2)
              (try clear e3)
              (try clear e4)
              (try clear e6)
              go_wp2_with fail
              go_meet
              exact ⟨(by first | rfl | (congr 1; simp; omega)), rfl⟩
            · have n0' : 0 < ns.length := by omega
              have hv : bad = true := by
                cases hb0 : bad
                · exfalso; have q := (HBAD.out.1 hb0).2; have := q.2.2.2 (by omega); omega
                · rfl
              subst hv
              clear HBAD
              (try clear k0)
              (try clear n0)
              (try clear t0)
              (try clear e2)
              (try clear e3)
              (try clear e4)
              (try clear e6)
              go_wp2_with fail
              go_meet
              exact ⟨(by first | rfl | (congr 1; simp; omega)), rfl⟩
          · have k0' : 0 < kids.length := by omega
            have hv : bad = true := by
              cases hb0 : bad
              · exfalso; have q := (HBAD.out.1 hb0).2; have := q.2.2.1 (by omega); omega
              · rfl
            subst hv
            clear HBAD
            (try clear k0)
            (try clear n0)
            (try clear t0)
            (try clear e2)
            (try clear e3)
            (try clear e4)
            (try clear e6)
            go_wp2_with fail
            go_meet
            exact ⟨(by first | rfl | (congr 1; simp; omega)), rfl⟩
        by_cases e4 : k = 4
        · subst e4
          by_cases k0 : kids.length = 0
          · obtain rfl := List.eq_nil_of_length_eq_zero k0
            by_cases n0 : ns.length = 0
            · obtain rfl := List.eq_nil_of_length_eq_zero n0
              have hv : bad = false := HBAD.out.2 ⟨by omega, ⟨(by intro h; first | rfl | cases h), (by intro h; omega), (by intro h; first | rfl | omega), (by intro h; first | rfl | omega)⟩⟩
              subst hv
              clear HBAD
              (try clear k0)
              (try clear n0)
              (try clear t0)
              (try clear e2)
              (try clear e3)
              (try clear e4)
              (try clear e6)
              go_wp2_with fail
              go_meet
              exact ⟨(by first | rfl | (congr 1; simp; omega)), rfl⟩
            · have n0' : 0 < ns.length := by omega
              have hv : bad = true := by
                cases hb0 : bad
                · exfalso; have q := (HBAD.out.1 hb0).2; have := q.2.2.2 (by omega); omega
                · rfl
              subst hv
              clear HBAD
              (try clear k0)
              (try clear n0)
              (try clear t0)
              (try clear e2)
              (try clear e3)
              (try clear e4)
              (try clear e6)
              go_wp2_with fail
              go_meet
              exact ⟨(by first | rfl | (congr 1; simp; omega)), rfl⟩
          · have k0' : 0 < kids.length := by omega
            have hv : bad = true := by
              cases hb0 : bad
              · exfalso; have q := (HBAD.out.1 hb0).2; have := q.2.2.1 (by omega); omega
              · rfl
            subst hv
            clear HBAD
            (try clear k0)
            (try clear n0)
            (try clear t0)
            (try clear e2)
            (try clear e3)
            (try clear e4)
            (try clear e6)
            go_wp2_with fail
            go_meet
            exact ⟨(by first | rfl | (congr 1; simp; omega)), rfl⟩
        have e3' : (k != 3) = true := by simp [e3]
        have e4' : (k != 4) = true := by simp [e4]
        have hv : bad = true := by
          cases hb0 : bad
          · exfalso; have q := (HBAD.out.1 hb0).2; rcases q.2.1 t0 with h | h <;> omega
          · rfl
        subst hv
        clear HBAD
        (try clear k0)
        (try clear n0)
        (try clear t0)
        (try clear e2)
        (try clear e3)
        (try clear e4)
        (try clear e6)
        go_wp2_with fail
        go_meet
        exact ⟨(by first | rfl | (congr 1; simp; omega)), rfl⟩
    · by_cases e2 : k = 2
      · subst e2
        by_cases t0 : t.size = 0
        · have t0' : t.toList.isEmpty = true := by rw [empty_iff]; simp [t0]
          by_cases k0 : kids.length = 0
          · obtain rfl := List.eq_nil_of_length_eq_zero k0
            by_cases n0 : ns.length = 0
            · obtain rfl := List.eq_nil_of_length_eq_zero n0
              have hv : bad = false := HBAD.out.2 ⟨by omega, ⟨(by intro h; first | rfl | cases h), (by intro h; omega), (by intro h; first | rfl | omega), (by intro h; first | rfl | omega)⟩⟩
              subst hv
              clear HBAD
              (try clear k0)
              (try clear n0)
              (try clear t0)
              (try clear e2)
              (try clear e3)
              (try clear e4)
              (try clear e6)
              go_wp2_with fail
              go_meet
              exact ⟨(by first | rfl | (congr 1; simp; omega)), rfl⟩
            · have n0' : 0 < ns.length := by omega
              have hv : bad = true := by
                cases hb0 : bad
                · exfalso; have q := (HBAD.out.1 hb0).2; have := q.2.2.2 (by omega); omega
                · rfl
              subst hv
              clear HBAD
              (try clear k0)
              (try clear n0)
              (try clear t0)
              (try clear e2)
              (try clear e3)
              (try clear e4)
              (try clear e6)
              go_wp2_with fail
              go_meet
              exact ⟨(by first | rfl | (congr 1; simp; omega)), rfl⟩
          · have k0' : 0 < kids.length := by omega
            have hv : bad = true := by
              cases hb0 : bad
              · exfalso; have q := (HBAD.out.1 hb0).2; have := q.2.2.1 (by omega); omega
              · rfl
            subst hv
            clear HBAD
            (try clear k0)
            (try clear n0)
            (try clear t0)
            (try clear e2)
            (try clear e3)
            (try clear e4)
            (try clear e6)
            go_wp2_with fail
            go_meet
            exact ⟨(by first | rfl | (congr 1; simp; omega)), rfl⟩
        · have t0' : t.toList.isEmpty = false := by rw [empty_iff]; simp [t0]
          have hv : bad = true := by
            cases hb0 : bad
            · exfalso; have q := (HBAD.out.1 hb0).2; rcases q.2.1 t0 with h | h <;> omega
            · rfl
          subst hv
          clear HBAD
          (try clear k0)
          (try clear n0)
          (try clear t0)
          (try clear e2)
          (try clear e3)
          (try clear e4)
          (try clear e6)
          go_wp2_with fail
          go_meet
          exact ⟨(by first | rfl | (congr 1; simp; omega)), rfl⟩
      · have e2' : (k != 2) = true := by simp [e2]
        have hv : bad = true := by
          cases hb0 : bad
          · exfalso; have q := (HBAD.out.1 hb0).2; exact e2 (q.1 rfl)
          · rfl
        subst hv
        clear HBAD
        (try clear k0)
        (try clear n0)
        (try clear t0)
        (try clear e2)
        (try clear e3)
        (try clear e4)
        (try clear e6)
        go_wp2_with fail
        go_meet
        exact ⟨(by first | rfl | (congr 1; simp; omega)), rfl⟩
  case rest =>
    obtain ⟨rfl, rfl⟩ := hcut
    have OB : Hid (Own (w.alloc (.cells #[.int .i64 k, .bool f, .string t, .slice A ns.length ca, .slice K kids.length kc] 42)) w.heap.size 42 [.int .i64 k, .bool f, .string t, .slice A ns.length ca, .slice K kids.length kc]) := Own.new w 42 #[.int .i64 k, .bool f, .string t, .slice A ns.length ca, .slice K kids.length kc]
    have HBX := Lib.hid hbx
    clear hbx
    cases bad
    · have HBARE := Lib.hid (HBAD.out.1 rfl).2
      clear HBAD
      by_cases h40 : 40 < kids.length
      · have h40' : (40 : Int) < (kids.length : Int) := by omega
        have H := Lib.hid h40
        have hb := HBX.out
        go_wp2
        go_ret
        refine ⟨false, rfl, iffF (fun h => ?_), hb⟩
        cases (HQ0.out.1 h).2.2 with
        | mk _ _ _ _ _ q => have := H.out; omega
      · have h40' : ¬ (40 : Int) < (kids.length : Int) := by omega
        go_wp2
        generalize w.alloc (.cells #[.int .i64 k, .bool f, .string t, .slice A ns.length ca, .slice K kids.length kc] 42) = W0 at *
        go_loopw [5] (fun i wr => ∃ j : Nat, j ≤ kids.length ∧ i = .int .i64 j ∧ Hid (∀ u (h : u < kids.length), u < j → kids[u].ht ≤ d ∧ JokP kids[u] ∧ NarJ kids[u]) ∧ Below W0.heap.size W0 wr) (fun i _ => kids.length - (intOf i).toNat)
        case atStart => exact ⟨0, Nat.zero_le _, rfl, fun u _ hu => by omega, Below.refl _ _⟩
        case round =>
          obtain ⟨j, hj, rfl, HU, hb⟩ := hrel
          have OBR := OB.out.keep hb
          have k4 : wr.cell? ⟨w.heap.size, 4, none⟩ = some (.slice K kids.length kc) := by rw [OBR.cell]; rfl
          have kl := cell_lt k4
          simp only at kl
          have HOB := Lib.hid OBR
          clear OBR
          by_cases hlt : j < kids.length
          · have hlt' : (j : Int) < (kids.length : Int) := by omega
            obtain ⟨b, off, rfl, hp⟩ := (HV.out.k.keep hb).at_ hlt
            have HNO : Hid (Q → kids[j].ht ≤ d ∧ JokP kids[j] ∧ NarJ kids[j]) := fun h => by
              replace h := HQ0.out.1 h
              refine ⟨htJ_le.1 (by omega) _ (List.getElem_mem hlt), h.2.1.kids _ (List.getElem_mem hlt), ?_⟩
              cases h.2.2 with
              | mk _ _ _ _ _ _ q => exact q _ (List.getElem_mem hlt)
            have HU2 : Hid (kids[j].ht ≤ d ∧ JokP kids[j] ∧ NarJ kids[j] → ∀ u (h : u < kids.length), u < j + 1 → kids[u].ht ≤ d ∧ JokP kids[u] ∧ NarJ kids[u]) := fun h1 u hu huj => by
              rcases Nat.lt_succ_iff_lt_or_eq.1 huj with h3 | h3
              · exact HU.out u hu h3
              · subst h3; exact h1
            have hlim := HL5.out _ (List.getElem_mem hlt)
            generalize kids[j] = p at *
            obtain ⟨pk, pf, pt, pns, pkids⟩ := p
            rw [htJ_mk] at HNO HU2
            obtain ⟨PA, PK, pa, pc, hc, hv⟩ := hp.open_
            obtain ⟨c0, c1, c2, c3, c4⟩ := hc
            have HC := Lib.hid (HI.out pk pf pt pns pkids PA PK pa pc B0 wr hv hlim)
            have hwd : IntKind.i64.wrap ((d : Int) + 1 - 1) = (d : Int) := by rw [show (d : Int) + 1 - 1 = (d : Int) by omega]; exact IntWalk.i64_in _ (by omega)
            clear hp hv hlim
            go_wp2_with fail
            refine HC.out.mono ?_
            rintro e w2 ⟨r, rfl, hr, hb2⟩
            have hb' : Below W0.heap.size W0 w2 := hb.trans (hb2.mono hb.size)
            have HRR := Lib.hid hr
            clear hb hb2 HC hr c0 c1 c2 c3 c4 k4
            cases r
            · go_wp2
              go_ret
              exact ⟨false, rfl, iffF (fun h => by have := HRR.out.2 (HNO.out h); cases this), HBX.out.trans (hb'.mono HBX.out.size)⟩
            · have HU3 := Lib.hid (HU2.out (HRR.out.1 rfl))
              go_wp2
              go_roundw
              case rel => exact ⟨j + 1, by omega, by go_num, HU3, hb'⟩
              case measure => simp [intOf]; omega
          · have hlt' : ¬ (j : Int) < (kids.length : Int) := by omega
            have HHT : Hid (htJ kids + 1 ≤ d + 1) := by
              have : htJ kids ≤ d := htJ_le.2 (fun p hp => by
                obtain ⟨u, hu, rfl⟩ := List.getElem_of_mem hp
                exact (HU.out u hu (by omega)).1)
              show _ ≤ _
              omega
            have HNAR : Hid (NarJ (.mk k f t ns kids)) := .mk k f t ns kids (by omega) (fun p hp => by
              obtain ⟨u, hu, rfl⟩ := List.getElem_of_mem hp
              exact (HU.out u hu (by omega)).2.2)
            have HJK : Hid (∀ p ∈ kids, JokP p) := fun p hp => by
              obtain ⟨u, hu, rfl⟩ := List.getElem_of_mem hp
              exact (HU.out u hu (by omega)).2.1
            have HQ : Hid (Q ↔ TailJ k t ns kids) := HQ0.out.trans ⟨fun h => (one_iff.1 h.2.1.one).2, fun h => ⟨HHT.out, .mk k f t ns kids (one_iff.2 ⟨HBARE.out, h⟩) HJK.out, HNAR.out⟩⟩
            have HB := Lib.hid (HBX.out.trans (hb.mono HBX.out.size))
            have k0 : wr.cell? ⟨w.heap.size, 0, none⟩ = some (.int .i64 k) := by rw [HOB.out.cell]; rfl
            have k2 : wr.cell? ⟨w.heap.size, 2, none⟩ = some (.string t) := by rw [HOB.out.cell]; rfl
            have k3 : wr.cell? ⟨w.heap.size, 3, none⟩ = some (.slice A ns.length ca) := by rw [HOB.out.cell]; rfl
            have HRN := Lib.hid ((HV.out.keep hb).a)
            clear HQ0 HHT HNAR HJK HU HBARE hb
            by_cases e1 : k = 1
            · subst e1
              have HT : Hid Q := HQ.out.2 (.inl rfl)
              have hb := HB.out
              go_wp2
              go_ret
              exact ⟨true, rfl, iffT HT.out, hb⟩
            by_cases e2 : k = 2
            · subst e2
              have HT : Hid Q := HQ.out.2 (.inr (.inl rfl))
              have hb := HB.out
              go_wp2
              go_ret
              exact ⟨true, rfl, iffT HT.out, hb⟩
            by_cases e5 : k = 5
            · subst e5
              have HT : Hid Q := HQ.out.2 (.inr (.inr (.inl rfl)))
              have hb := HB.out
              go_wp2
              go_ret
              exact ⟨true, rfl, iffT HT.out, hb⟩
            by_cases e3 : k = 3
            · subst e3
              have HT : Hid (Q ↔ NumP t) := HQ.out.trans (by unfold TailJ; simp)
              have HC := Lib.hid (l31Num_any t wr l1)
              go_wp2_with fail
              refine HC.out.mono ?_
              rintro e w2 ⟨r, rfl, h1, hb2⟩
              have H1 := Lib.hid h1
              have hb := HB.out.trans (hb2.mono HB.out.size)
              clear h1 hb2
              go_wp2
              go_ret
              exact ⟨r, rfl, H1.out.trans HT.out.symm, hb⟩
            by_cases e4 : k = 4
            · subst e4
              have HT : Hid (Q ↔ QuoP t) := HQ.out.trans (by unfold TailJ; simp)
              have HC := Lib.hid (l31Text_any t wr l1)
              by_cases t20 : t.size ≤ 20
              · have t20' : (t.size : Int) ≤ 20 := by omega
                have T20 := Lib.hid t20
                go_wp2_with fail
                refine HC.out.mono ?_
                rintro e w2 ⟨r, rfl, h1, hb2⟩
                have H1 := Lib.hid h1
                have hb := HB.out.trans (hb2.mono HB.out.size)
                clear h1 hb2
                go_wp2
                go_ret
                exact ⟨r, rfl, (H1.out.trans ⟨fun h => ⟨T20.out, h⟩, fun h => h.2⟩).trans HT.out.symm, hb⟩
              · have t20' : ¬ (t.size : Int) ≤ 20 := by omega
                have HF : Hid (¬ Q) := fun h => t20 (HT.out.1 h).1
                have hb := HB.out
                go_wp2
                go_ret
                exact ⟨false, rfl, iffF HF.out, hb⟩
            by_cases e6 : k = 6
            · subst e6
              have HT : Hid (Q ↔ ns.length = kids.length ∧ NmsP ns) := HQ.out.trans (by unfold TailJ; simp)
              have HC := Lib.hid (l31Names_any ns A ca wr HRN.out l2 HL3.out)
              by_cases nl : ns.length = kids.length
              · have nl' : ((ns.length : Int) == (kids.length : Int)) = true := by rw [nl]; simp
                have NL := Lib.hid nl
                clear nl
                go_wp2_with fail
                refine HC.out.mono ?_
                rintro e w2 ⟨r, rfl, h1, hb2⟩
                have H1 := Lib.hid h1
                have hb := HB.out.trans (hb2.mono HB.out.size)
                clear h1 hb2
                go_wp2
                go_ret
                exact ⟨r, rfl, (H1.out.trans ⟨fun h => ⟨NL.out, h⟩, fun h => h.2⟩).trans HT.out.symm, hb⟩
              · have nl' : ((ns.length : Int) == (kids.length : Int)) = false := by rw [beq_eq_false_iff_ne]; omega
                have HF : Hid (¬ Q) := fun h => nl (HT.out.1 h).1
                have hb := HB.out
                clear nl
                go_wp2
                go_ret
                exact ⟨false, rfl, iffF HF.out, hb⟩
            have HF : Hid (¬ Q) := fun h => by
              rcases HQ.out.1 h with h | h | h | h | h | h
              · exact e1 h
              · exact e2 h
              · exact e5 h
              · exact e3 h.1
              · exact e4 h.1
              · exact e6 h.1
            have e1' : (k == 1) = false := by simp [e1]
            have e2' : (k == 2) = false := by simp [e2]
            have e3' : (k == 3) = false := by simp [e3]
            have e4' : (k == 4) = false := by simp [e4]
            have e5' : (k == 5) = false := by simp [e5]
            have e6' : (k == 6) = false := by simp [e6]
            have hb := HB.out
            clear e1 e2 e3 e4 e5 e6
            go_wp2
            go_ret
            exact ⟨false, rfl, iffF HF.out, hb⟩
    · have HF : Hid (¬ BareJ k f t ns kids) := fun h => by have := HBAD.out.2 ⟨by omega, h⟩; cases this
      have hb := HBX.out
      go_wp2
      go_ret
      exact ⟨false, rfl, iffF (fun h => HF.out (one_iff.1 (HQ0.out.1 h).2.1.one).1), hb⟩

theorem deep_all : ∀ d, d ≤ 9 → DeP d
  | 0, _ => deep0
  | d + 1, h => deepS (deep_all d (by omega)) (by omega)

end Go.Proofs.YtkhcappjhefkjaaGreatDoor

