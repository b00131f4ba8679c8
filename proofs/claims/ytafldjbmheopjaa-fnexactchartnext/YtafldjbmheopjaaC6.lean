/- Whether productions are ok: spec.CfgOk. -/
import Derived.Test.YtafldjbmheopjaaC5
namespace Go.Proofs.Ytafldjbmheopjaa
open Go.RowKit
set_option linter.unusedVariables false

theorem in_lit (n lo hi : Int) (b : Bool) (w : World) (h : inB n lo hi = b) :
    Calls Try.prog 37 #[.int .i64 n, .int .i64 lo, .int .i64 hi] w fun e w' => e = .returned (.bool b) ∧ w = w' := by
  subst h; exact in_any n lo hi w

theorem quiet_left {P : Program} {f : FuncId} {args : Array Value} {w : World} {n : Nat} {v : Value}
    (h : Calls P f args (w.drewN n) fun e w' => e = .returned v ∧ w.drewN n = w') : Calls P f args (w.drewN n) fun e w'' => e = .returned v ∧ ∃ m, w'' = w.drewN m :=
  h.mono fun _ _ ⟨he, hm⟩ => ⟨he, n, hm.symm⟩

set_option maxRecDepth 100000 in
set_option maxHeartbeats 4000000 in
theorem specOk_any (hd : Int) (ps : List Pd) (a : Option Addr) (c : Nat) (w : World) (hr : Pds w a ps) (hm : ps.length ≤ 1048576) (hs : Small ps) :
    Calls Try.prog 22 #[.agg #[.int .i64 hd, .slice a ps.length c]] w fun e w' => e = .returned (.bool (cfgOkB hd ps)) ∧ Below w.heap.size w w' := by
  have HR := Lib.hid hr
  have HS := Lib.hid hs
  clear hr hs
  by_cases h1 : 1 ≤ hd ∧ hd ≤ 200
  · obtain ⟨h1, h2⟩ := h1
    by_cases h3 : 400 < ps.length
    · have h3' : (400 : Int) < ps.length := by omega
      have H := Lib.hid h3
      go_enter Try.func22, Try.ntmps22
      go_wp2_with (go_at_call 37; refine (in_lit _ _ _ true _ (by unfold inB; simp; omega)).mono ?_; rintro e w' ⟨rfl, rfl⟩)
      go_ret
      exact ⟨ret_bool (by have := H.out; unfold cfgOkB; rw [decide_eq_false (by omega : ¬ ps.length ≤ 400)]; simp), below_box _⟩
    · have h3' : ¬ (400 : Int) < ps.length := by omega
      have EQ : Hid (cfgOkB hd ps = allOk hd ps) := by
        show _ = _
        unfold cfgOkB
        rw [decide_eq_true (by omega : 1 ≤ hd), decide_eq_true (by omega : hd ≤ 200), decide_eq_true (by omega : ps.length ≤ 400)]; rfl
      go_enter Try.func22, Try.ntmps22
      go_wp2_with (go_at_call 37; refine (in_lit _ _ _ true _ (by unfold inB; simp; omega)).mono ?_; rintro e w' ⟨rfl, rfl⟩)
      have HB0 : Below w.heap.size w (w.alloc (.cells #[.int .i64 hd, .slice a ps.length c] 33)) := below_box _
      have HR1 := Lib.hid (HR.out.keep HB0)
      have HC0 : (w.alloc (.cells #[.int .i64 hd, .slice a ps.length c] 33)).cell? ⟨w.heap.size, 0, none⟩ = some (.int .i64 hd) := by simp
      have HC1 : (w.alloc (.cells #[.int .i64 hd, .slice a ps.length c] 33)).cell? ⟨w.heap.size, 1, none⟩ = some (.slice a ps.length c) := by simp
      generalize w.alloc (.cells #[.int .i64 hd, .slice a ps.length c] 33) = W at *
      replace HB0 := Lib.hid HB0
      replace HC0 := Lib.hid HC0
      replace HC1 := Lib.hid HC1
      have HB := HB0
      clear HB0
      go_loopw [3] (fun i wr => ∃ k : Nat, k ≤ ps.length ∧ i = .int .i64 k ∧ Hid (OkTo hd ps k) ∧ Below W.heap.size W wr) (fun i _ => ps.length - (intOf i).toNat)
      case atStart => exact ⟨0, Nat.zero_le _, rfl, fun j _ hj => by omega, Below.refl _ _⟩
      case round =>
        obtain ⟨k, hk, rfl, HK, hb⟩ := hrel
        have x0 := cell_keep hb HC0.out
        have x0' := cell_keep hb HC1.out
        have hx := cell_lt x0
        simp only at hx
        by_cases hlt : k < ps.length
        · obtain ⟨b, off, rfl, K, kc, hn⟩ := (HR1.out.keep hb).at_ hlt
          have hlt' : (k : Int) < (ps.length : Int) := by omega
          have hz1 := HS.out _ (List.getElem_mem hlt)
          have c0 := hn.c0
          have c1 := hn.c1
          have EX : Hid (pdOkB hd (lastAt ps k) ps[k] = false → cfgOkB hd ps = false) := fun hp => by rw [EQ.out]; exact allOk_bad hlt hp
          have EY : Hid (pdOkB hd (lastAt ps k) ps[k] = true → OkTo hd ps (k + 1)) := fun hp => OkTo.succ HK hlt hp
          have z0 := cell_alloc (o := .cells #[.int .i64 ps[k].head, .slice K ps[k].body.length kc] 57) x0
          have z1 := cell_alloc (o := .cells #[.int .i64 ps[k].head, .slice K ps[k].body.length kc] 57) x0'
          have HPV : Hid (∀ j, k = j + 1 → ∃ pv : Pd, wr.cell? ⟨b, off + j * 2, none⟩ = some (.int .i64 pv.head) ∧ lastAt ps k = pv.head ∧ 0 ≤ pv.head) := fun j hj => by
            obtain ⟨b', off', e, K', kc', hn'⟩ := (HR1.out.keep hb).at_ (show j < ps.length by omega)
            injection e with e
            injection e with e1 e2
            subst e1 e2
            refine ⟨ps[j], hn'.c0, by subst hj; exact lastAt_succ _, ?_⟩
            have := HK j (by omega) (by omega)
            unfold pdOkB at this
            simp at this
            omega
          have HLA : Hid (k = 0 → lastAt ps k = 0) := fun h => by subst h; rfl
          generalize ps[k] = p at *
          generalize lastAt ps k = la at *
          have HBW : Hid (∀ o n, Below w.heap.size w ((wr.alloc o).drewN n)) := fun o n => HB.out.trans ((below_drewN (hb.alloc hb.size o) n).mono HB.out.size)
          have HWR : IntKind.i64.wrap (hd - 1) = hd - 1 := IntWalk.i64_in _ (by omega)
          by_cases g1 : 0 ≤ p.head ∧ p.head ≤ hd - 1
          · obtain ⟨g1, g2⟩ := g1
            have QIN : inB p.head 0 (hd - 1) = true := by unfold inB; simp; omega
            by_cases g3 : 160 < p.body.length
            · have g3' : (160 : Int) < p.body.length := by omega
              have d1 : decide ((160 : Int) < (p.body.length : Int)) = true := decide_eq_true g3'
              have d1' : decide (160 < p.body.length) = true := decide_eq_true g3
              have G := Lib.hid g3
              go_wp2
              go_quiet ((go_at_call 37; exact quiet_left (in_any _ _ _ _)))
              go_wp2
              go_ret
              exact ⟨ret_bool (EX.out (by unfold pdOkB bodyOkB; have := G.out; rw [decide_eq_false (by omega : ¬ p.body.length ≤ 160)]; simp)).symm, HBW.out _ _⟩
            · have g3' : ¬ (160 : Int) < p.body.length := by omega
              have d1 : decide ((160 : Int) < (p.body.length : Int)) = false := decide_eq_false g3'
              have d1' : decide (160 < p.body.length) = false := decide_eq_false g3
              by_cases hk0 : k = 0
              · have hk0' : ¬ (0 : Int) < (k : Int) := by omega
                have LZ : Hid (la ≤ p.head) := by have := HLA.out hk0; show _ ≤ _; omega
                have d2 : decide ((0 : Int) < (k : Int)) = false := decide_eq_false hk0'
                have d2' : decide (0 < k) = false := decide_eq_false (by omega)
                have hk1 := Lib.hid hk0
                clear hk0
                go_wp2
                go_quiet ((go_at_call 37; exact quiet_left (in_any _ _ _ _)))
                rw [QIN]
                clear QIN
                have hb1 : Below W.heap.size W ((wr.alloc (.cells #[.int .i64 p.head, .slice K p.body.length kc] 57)).drewN nq) := below_drewN (hb.alloc hb.size _) nq
                have x1 : ((wr.alloc (.cells #[.int .i64 p.head, .slice K p.body.length kc] 57)).drewN nq).cell? ⟨w.heap.size, 0, none⟩ = some (.int .i64 hd) := cell_keep hb1 HC0.out
                have x2 : ((wr.alloc (.cells #[.int .i64 p.head, .slice K p.body.length kc] 57)).drewN nq).cell? ⟨w.heap.size, 1, none⟩ = some (.slice (some ⟨b, off, none⟩) ps.length c) := cell_keep hb1 HC1.out
                have x3 : ((wr.alloc (.cells #[.int .i64 p.head, .slice K p.body.length kc] 57)).drewN nq).cell? ⟨wr.heap.size, 1, none⟩ = some (.slice K p.body.length kc) := by simp
                have HK1 := Lib.hid ((hn.k.keep (below_box (.cells #[.int .i64 p.head, .slice K p.body.length kc] 57))).drewN nq)
                generalize hgW2 : (wr.alloc (.cells #[.int .i64 p.head, .slice K p.body.length kc] 57)).drewN nq = W2 at *
                have X1 := Lib.hid x1
                have X2 := Lib.hid x2
                have X3 := Lib.hid x3
                have HB1 := Lib.hid hb1
                generalize wr.heap.size = pb at *
                clear x1 x2 x3 hb1 hb hn c0 c1 hgW2 HBW HPV
                go_wp2
                go_loopw [5] (fun i wr => ∃ m : Nat, m ≤ p.body.length ∧ i = .int .i64 m ∧ Hid (∀ j (h : j < p.body.length), j < m → symOkB hd p.body[j] = true) ∧ Below W2.heap.size W2 wr) (fun i _ => p.body.length - (intOf i).toNat)
                case atStart => exact ⟨0, Nat.zero_le _, rfl, fun j _ hj => by omega, Below.refl _ _⟩
                case round =>
                  obtain ⟨m, hm, rfl, HM, hbi⟩ := hrel
                  have HBW : Hid (∀ w2, Below W2.heap.size W2 w2 → Below w.heap.size w w2) := fun w2 h2 => HB.out.trans ((HB1.out.trans (h2.mono HB1.out.size)).mono HB.out.size)
                  have y3 := cell_keep hbi X3.out
                  by_cases hml : m < p.body.length
                  · have hml' : (m : Int) < (p.body.length : Int) := by omega
                    obtain ⟨kb, ko, rfl, hsy⟩ := (HK1.out.keep hbi).at_ hml
                    obtain ⟨s0, s1, s2⟩ := hsy
                    have y1 := cell_keep hbi X1.out
                    have y2 := cell_keep hbi X2.out
                    have ES : Hid (symOkB hd p.body[m] = true → ∀ j (h : j < p.body.length), j < m + 1 → symOkB hd p.body[j] = true) := fun q j h hj => by
                      rcases Nat.lt_succ_iff_lt_or_eq.1 hj with h3 | h3
                      · exact HM j h h3
                      · subst h3; exact q
                    have EM := Lib.hid (List.getElem_mem hml)
                    generalize p.body[m] = s at *
                    go_wp2
                    go_region_held3 (fun X => X.cell? ⟨w.heap.size, 0, none⟩ = some (.int .i64 hd) ∧ X.cell? ⟨w.heap.size, 1, none⟩ = some (.slice (some ⟨b, off, none⟩) ps.length c) ∧ X.cell? ⟨pb, 1, none⟩ = some (.slice (some ⟨kb, ko, none⟩) p.body.length kc) ∧ X.cell? ⟨kb, ko + m * 3, none⟩ = some (.int .i64 s.head) ∧ X.cell? ⟨kb, ko + m * 3 + 1, none⟩ = some (.int .i64 s.low) ∧ X.cell? ⟨kb, ko + m * 3 + 2, none⟩ = some (.int .i64 s.high))
                      (first | exact ⟨cell_keep hb2 y1, cell_keep hb2 y2, cell_keep hb2 y3, cell_keep hb2 s0, cell_keep hb2 s1, cell_keep hb2 s2⟩ | exact ⟨y1, y2, y3, s0, s1, s2⟩)
                      (first | (go_at_call 38; refine (l3Sym_any s hd _ _ _ _ (by omega) (by omega)).mono ?_; rintro e w2 ⟨rfl, hb2⟩))
                    have hb' : Below W2.heap.size W2 w2 := hbi.drew.trans (hb2.mono hbi.drew.size)
                    clear hb2 hbi y1 y2 y3 s0 s1 s2
                    cases q : symOkB hd s
                    · have Q := Lib.hid q
                      go_wp2
                      go_ret
                      exact ⟨ret_bool (EX.out (by unfold pdOkB bodyOkB; rw [show p.body.all (symOkB hd) = false from List.all_eq_false.2 ⟨s, EM.out, by simp [Q.out]⟩]; simp)).symm, HBW.out _ hb'⟩
                    · have Q := Lib.hid (ES.out q)
                      go_wp2
                      go_roundw
                      case rel => exact ⟨m + 1, by omega, by go_num, Q.out, hb'⟩
                      case measure => simp [intOf]; omega
                  · have hml' : ¬ (m : Int) < (p.body.length : Int) := by omega
                    have QA : p.body.all (symOkB hd) = true := by
                      rw [List.all_eq_true]
                      intro s hs
                      obtain ⟨j, hj, rfl⟩ := List.getElem_of_mem hs
                      exact HM j hj (by omega)
                    have R : Hid (OkTo hd ps (k + 1)) := EY.out (by unfold pdOkB bodyOkB; rw [QA, decide_eq_true (by omega : 0 ≤ p.head), decide_eq_true LZ.out, decide_eq_true (by omega : p.head < hd), decide_eq_true (by omega : p.body.length ≤ 160)]; rfl)
                    have hb' : Below W.heap.size W wr := HB1.out.trans (hbi.mono HB1.out.size)
                    clear QA HBW hbi
                    go_wp2
                    go_roundw
                    case rel => exact ⟨k + 1, by omega, by go_num, R, hb'⟩
                    case measure => simp [intOf]; omega
              · obtain ⟨j, rfl⟩ : ∃ j, k = j + 1 := ⟨k - 1, by omega⟩
                obtain ⟨pv, hpv, hla, hpv0⟩ := HPV.out j rfl
                have z2 := cell_alloc (o := .cells #[.int .i64 p.head, .slice K p.body.length kc] 57) hpv
                have d2 : decide ((0 : Int) < ((j : Int) + 1)) = true := decide_eq_true (by omega)
                have d2' : decide (0 < j + 1) = true := decide_eq_true (by omega)
                have hwj : IntKind.i64.wrap (j : Int) = (j : Int) := IntWalk.i64_in _ (by omega)
                have hwj2 : IntKind.i64.wrap ((j : Int) + 1 - 1) = (j : Int) := by rw [IntKind.wrap_i64]; omega
                by_cases g4 : p.head < pv.head
                · have G := Lib.hid g4
                  have d4 : decide (p.head < pv.head) = true := decide_eq_true g4
                  go_wp2
                  go_quiet ((go_at_call 37; exact quiet_left (in_any _ _ _ _)))
                  go_wp2
                  go_ret
                  exact ⟨ret_bool (EX.out (by unfold pdOkB; have := G.out; rw [decide_eq_false (by omega : ¬ la ≤ p.head)]; simp)).symm, HBW.out _ _⟩
                · have LZ : Hid (la ≤ p.head) := by show _ ≤ _; omega
                  have d4 : decide (p.head < pv.head) = false := decide_eq_false g4
                  go_wp2
                  go_quiet ((go_at_call 37; exact quiet_left (in_any _ _ _ _)))
                  rw [QIN]
                  clear QIN
                  have hb1 : Below W.heap.size W ((wr.alloc (.cells #[.int .i64 p.head, .slice K p.body.length kc] 57)).drewN nq) := below_drewN (hb.alloc hb.size _) nq
                  have x1 : ((wr.alloc (.cells #[.int .i64 p.head, .slice K p.body.length kc] 57)).drewN nq).cell? ⟨w.heap.size, 0, none⟩ = some (.int .i64 hd) := cell_keep hb1 HC0.out
                  have x2 : ((wr.alloc (.cells #[.int .i64 p.head, .slice K p.body.length kc] 57)).drewN nq).cell? ⟨w.heap.size, 1, none⟩ = some (.slice (some ⟨b, off, none⟩) ps.length c) := cell_keep hb1 HC1.out
                  have x3 : ((wr.alloc (.cells #[.int .i64 p.head, .slice K p.body.length kc] 57)).drewN nq).cell? ⟨wr.heap.size, 1, none⟩ = some (.slice K p.body.length kc) := by simp
                  have HK1 := Lib.hid ((hn.k.keep (below_box (.cells #[.int .i64 p.head, .slice K p.body.length kc] 57))).drewN nq)
                  generalize hgW2 : (wr.alloc (.cells #[.int .i64 p.head, .slice K p.body.length kc] 57)).drewN nq = W2 at *
                  have X1 := Lib.hid x1
                  have X2 := Lib.hid x2
                  have X3 := Lib.hid x3
                  have HB1 := Lib.hid hb1
                  generalize wr.heap.size = pb at *
                  clear x1 x2 x3 hb1 hb hn c0 c1 hgW2 HBW HPV
                  go_wp2
                  go_loopw [5] (fun i wr => ∃ m : Nat, m ≤ p.body.length ∧ i = .int .i64 m ∧ Hid (∀ j (h : j < p.body.length), j < m → symOkB hd p.body[j] = true) ∧ Below W2.heap.size W2 wr) (fun i _ => p.body.length - (intOf i).toNat)
                  case atStart => exact ⟨0, Nat.zero_le _, rfl, fun j _ hj => by omega, Below.refl _ _⟩
                  case round =>
                    obtain ⟨m, hm, rfl, HM, hbi⟩ := hrel
                    have HBW : Hid (∀ w2, Below W2.heap.size W2 w2 → Below w.heap.size w w2) := fun w2 h2 => HB.out.trans ((HB1.out.trans (h2.mono HB1.out.size)).mono HB.out.size)
                    have y3 := cell_keep hbi X3.out
                    by_cases hml : m < p.body.length
                    · have hml' : (m : Int) < (p.body.length : Int) := by omega
                      obtain ⟨kb, ko, rfl, hsy⟩ := (HK1.out.keep hbi).at_ hml
                      obtain ⟨s0, s1, s2⟩ := hsy
                      have y1 := cell_keep hbi X1.out
                      have y2 := cell_keep hbi X2.out
                      have ES : Hid (symOkB hd p.body[m] = true → ∀ j (h : j < p.body.length), j < m + 1 → symOkB hd p.body[j] = true) := fun q j h hj => by
                        rcases Nat.lt_succ_iff_lt_or_eq.1 hj with h3 | h3
                        · exact HM j h h3
                        · subst h3; exact q
                      have EM := Lib.hid (List.getElem_mem hml)
                      generalize p.body[m] = s at *
                      go_wp2
                      go_region_held3 (fun X => X.cell? ⟨w.heap.size, 0, none⟩ = some (.int .i64 hd) ∧ X.cell? ⟨w.heap.size, 1, none⟩ = some (.slice (some ⟨b, off, none⟩) ps.length c) ∧ X.cell? ⟨pb, 1, none⟩ = some (.slice (some ⟨kb, ko, none⟩) p.body.length kc) ∧ X.cell? ⟨kb, ko + m * 3, none⟩ = some (.int .i64 s.head) ∧ X.cell? ⟨kb, ko + m * 3 + 1, none⟩ = some (.int .i64 s.low) ∧ X.cell? ⟨kb, ko + m * 3 + 2, none⟩ = some (.int .i64 s.high))
                        (first | exact ⟨cell_keep hb2 y1, cell_keep hb2 y2, cell_keep hb2 y3, cell_keep hb2 s0, cell_keep hb2 s1, cell_keep hb2 s2⟩ | exact ⟨y1, y2, y3, s0, s1, s2⟩)
                        (first | (go_at_call 38; refine (l3Sym_any s hd _ _ _ _ (by omega) (by omega)).mono ?_; rintro e w2 ⟨rfl, hb2⟩))
                      have hb' : Below W2.heap.size W2 w2 := hbi.drew.trans (hb2.mono hbi.drew.size)
                      clear hb2 hbi y1 y2 y3 s0 s1 s2
                      cases q : symOkB hd s
                      · have Q := Lib.hid q
                        go_wp2
                        go_ret
                        exact ⟨ret_bool (EX.out (by unfold pdOkB bodyOkB; rw [show p.body.all (symOkB hd) = false from List.all_eq_false.2 ⟨s, EM.out, by simp [Q.out]⟩]; simp)).symm, HBW.out _ hb'⟩
                      · have Q := Lib.hid (ES.out q)
                        go_wp2
                        go_roundw
                        case rel => exact ⟨m + 1, by omega, by go_num, Q.out, hb'⟩
                        case measure => simp [intOf]; omega
                    · have hml' : ¬ (m : Int) < (p.body.length : Int) := by omega
                      have QA : p.body.all (symOkB hd) = true := by
                        rw [List.all_eq_true]
                        intro s hs
                        obtain ⟨j, hj, rfl⟩ := List.getElem_of_mem hs
                        exact HM j hj (by omega)
                      have R : Hid (OkTo hd ps (j + 1 + 1)) := EY.out (by unfold pdOkB bodyOkB; rw [QA, decide_eq_true (by omega : 0 ≤ p.head), decide_eq_true LZ.out, decide_eq_true (by omega : p.head < hd), decide_eq_true (by omega : p.body.length ≤ 160)]; rfl)
                      have hb' : Below W.heap.size W wr := HB1.out.trans (hbi.mono HB1.out.size)
                      clear QA HBW hbi
                      go_wp2
                      go_roundw
                      case rel => exact ⟨j + 1 + 1, by omega, by go_num, R, hb'⟩
                      case measure => simp [intOf]; omega
          · have G := Lib.hid g1
            cases qin : inB p.head 0 (hd - 1)
            · have QIN := qin
              go_wp2
              go_quiet ((go_at_call 37; exact quiet_left (in_any _ _ _ _)))
              go_wp2
              go_ret
              exact ⟨ret_bool (EX.out (by unfold pdOkB; have := G.out; cases u1 : decide (0 ≤ p.head) <;> cases u2 : decide (p.head < hd) <;> simp at u1 u2 ⊢; omega)).symm, HBW.out _ _⟩
            · exfalso; unfold inB at qin; simp at qin; omega
        · have hlt' : ¬ (k : Int) < (ps.length : Int) := by omega
          go_wp2
          go_ret
          have hkk : k = ps.length := by omega
          subst hkk
          exact ⟨ret_bool (by rw [EQ.out]; exact (allOk_iff.2 HK).symm), HB.out.trans (hb.mono HB.out.size)⟩
  · have H := Lib.hid h1
    go_enter Try.func22, Try.ntmps22
    go_wp2_with (go_at_call 37; refine (in_lit _ _ _ false _ (by unfold inB; simp; omega)).mono ?_; rintro e w' ⟨rfl, rfl⟩)
    go_ret
    exact ⟨ret_bool (by have := H.out; unfold cfgOkB; cases u1 : decide (1 ≤ hd) <;> cases u2 : decide (hd ≤ 200) <;> simp at u1 u2 ⊢; omega), below_box _⟩

end Go.Proofs.Ytafldjbmheopjaa
