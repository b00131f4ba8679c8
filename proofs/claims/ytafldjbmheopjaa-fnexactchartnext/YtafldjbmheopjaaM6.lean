/- The heads that are needed: impl.neededHeads. -/
import Derived.Test.YtafldjbmheopjaaM5
namespace Go.Proofs.Ytafldjbmheopjaa
open Go.RowKit
set_option linter.unusedVariables false

/-- Flags and a queue in memory. -/
structure NS (W : World) (fb : Nat) (v : Value) (q : List Nat) (N : List Bool) (w : World) : Prop where
  o : Own w fb 4 (bools N)
  r : QRow W.heap.size v q w
  b : Below W.heap.size W w
  g : W.heap.size ≤ fb

section
variable {W w w' : World} {fb : Nat} {v v' : Value} {q q' : List Nat} {N : List Bool}
theorem NS.keep (h : NS W fb v q N w) (hb : Below w.heap.size w w') : NS W fb v q N w' :=
  ⟨h.o.keep hb, h.r.same (fun b e => hb.block b (h.r.lt e).2.1), h.b.trans (hb.mono h.b.size), h.g⟩
theorem NS.ne (h : NS W fb v q N w) : v.ownBlock ≠ some fb := fun e => by
  obtain ⟨_, _, cur, hc⟩ := h.r.lt e
  exact h.o.ne hc (by decide) rfl
theorem NS.flag (h : NS W fb v q N w) (i : Nat) : NS W fb v q (N.set i true) (w.setCell ⟨fb, i, none⟩ (.bool true)) :=
  ⟨h.o.putFlag i true, h.r.same (fun b e => Below.heap_setCell w _ _ b (fun e2 => h.ne (by rw [e, e2]))), h.b.setCell h.g _, h.g⟩
theorem NS.grow (h : NS W fb v q N w) (hg : w.grownBy w' v.ownBlock) (hq : QRow W.heap.size v' q' w') : NS W fb v' q' N w' :=
  ⟨(hg.block fb h.o.lt (fun e => h.ne e.symm)).trans h.o, hq, h.b.grown hg h.b.size (fun k hk => (h.r.lt hk).1), h.g⟩
end

/-- What the flags of a block read as. -/
def readN (fb n : Nat) (w : World) : List Bool := (List.range n).map fun i => match w.cell? ⟨fb, i, none⟩ with | some (.bool b) => b | _ => false
theorem NS.read {W w : World} {fb : Nat} {v : Value} {q : List Nat} {N : List Bool} (h : NS W fb v q N w) : readN fb N.length w = N := by
  unfold readN
  apply List.ext_getElem (by simp)
  intro i h1 h2
  simp only [List.getElem_map, List.getElem_range]
  rw [h.o.cell]
  simp [bools, h2]
def lenOf : Value → Nat
  | .slice _ n _ => n
  | _ => 0
theorem QRow.lenOf {base : Nat} {v : Value} {q : List Nat} {w : World} (h : QRow base v q w) : lenOf v = q.length := by
  obtain ⟨A, cap, rfl⟩ := h.shape; rfl

/-- What neededHeads leaves. -/
def NeedPost (n : Nat) (qs : List Pd) (w : World) (e : Ending) (w' : World) : Prop :=
  ∃ g N, e = .returned (.slice (some ⟨g, 0, none⟩) n n) ∧ w.heap.size ≤ g ∧ Own w' g 4 (bools N) ∧ IsNeed n qs N ∧ Below w.heap.size w w'

set_option maxRecDepth 100000 in
set_option maxHeartbeats 4000000 in
theorem needed_any (n : Nat) (qs : List Pd) (A : Option Addr) (c : Nat) (w : World) (hr : Pds w A qs) (hf : Fit n qs) (hm : qs.length ≤ 400) (hn1 : 1 ≤ n) (hn2 : n ≤ 200) :
    Calls Try.prog 74 #[.slice A qs.length c, .int .i64 n] w (NeedPost n qs w) := by
  have HR := Lib.hid hr
  have HF := Lib.hid hf
  clear hr hf
  obtain ⟨i0, hi0, hz0, hz1, hz2⟩ := info_parts info3
  have HI := Lib.hid (And.intro hi0 (And.intro hz0 (And.intro hz1 hz2)))
  clear hi0 hz0 hz1 hz2
  have hmk := run_make_row' (P := Try.prog) 42 4 (.bool false) 1 Try.underlying42 info4 rfl .i64 .i64 n (by omega) (by omega)
  go_enter Try.func74, Try.ntmps74
  have hn0 : (0 : Int) < (n : Int) := by omega
  have HS0 : Hid (NS w w.heap.size (.slice (some ⟨w.heap.size + 1, 0, none⟩) 1 1) [0] ((List.replicate n false).set 0 true) ((w.alloc (.cells ((madeCells #[.bool false] n).setIfInBounds 0 (.bool true)) 4)).alloc (.cells #[.int .i64 0] 3))) := by
    have hO0 : Own (w.alloc (.cells ((madeCells #[.bool false] n).setIfInBounds 0 (.bool true)) 4)) w.heap.size 4 (bools ((List.replicate n false).set 0 true)) := by
      have := Own.new w 4 ((madeCells #[.bool false] n).setIfInBounds 0 (.bool true))
      rw [Array.toList_setIfInBounds, toList_madeCells_one] at this
      rw [← bools_set]
      simpa [bools] using this
    refine ⟨hO0.alloc _, .inr ⟨w.heap.size + 1, 0, 1, [.int .i64 0], rfl, by omega, ?_, by simp, by simp, by simp [maxLen], fun i hi => ?_⟩, (below_box _).alloc (by simp) _, Nat.le_refl _⟩
    · have := Own.new (w.alloc (.cells ((madeCells #[.bool false] n).setIfInBounds 0 (.bool true)) 4)) 3 #[.int .i64 0]
      rw [World.size_alloc] at this
      exact this
    · have : i = 0 := by simp at hi; omega
      subst this; rfl
  have HN0 : Hid (NI n qs [0] ((List.replicate n false).set 0 true)) := NI.start hn1
  have hmc : (madeCells #[.bool false] n)[0]? = some (.bool false) := by
    rw [← Array.getElem?_toList, toList_madeCells_one, List.getElem?_replicate, if_pos (by omega)]
  go_wp2
  generalize ((w.alloc (.cells ((madeCells #[.bool false] n).setIfInBounds 0 (.bool true)) 4)).alloc (.cells #[.int .i64 0] 3)) = W0 at *
  clear hmk hmc
  go_loopw [6] (fun wv wr => ∃ q N, Hid (NS w w.heap.size wv q N wr) ∧ Hid (NI n qs q N)) (fun wv wr => 2 * cntF (readN w.heap.size n wr) + lenOf wv)
  case atStart => exact ⟨_, _, HS0, HN0⟩
  case round =>
    clear HS0 HN0
    obtain ⟨q, N, HS, HN⟩ := hrel
    obtain ⟨QA, qc, rfl⟩ := HS.out.r.shape
    have HM1 : Hid (2 * cntF (readN w.heap.size n wr) + lenOf (.slice QA q.length qc) = 2 * cntF N + q.length) := by
      show _ = _
      rw [← HN.out.l, HS.out.read]; rfl
    cases q with
    | nil =>
      have HNN := Lib.hid (HN.out.done (fun p hp => (HF.out p hp).1))
      go_wp2
      go_ret
      exact ⟨_, N, rfl, Nat.le_refl _, HS.out.o, HNN.out, HS.out.b⟩
    | cons x q =>
      obtain ⟨m0, hm0⟩ : ∃ m0, (x :: q).length = m0 := ⟨_, rfl⟩
      have hm01 : q.length + 1 = m0 := by simpa using hm0
      rw [hm0] at HS HM1 ⊢
      have hq0 : (0 : Int) < (m0 : Int) := by omega
      have hp0 : 0 < m0 := by omega
      clear hm0
      go_wp2
      go_loopw [23, 6] (fun iv wv wr => ∃ i : Nat, i ≤ qs.length ∧ iv = .int .i64 i ∧ ∃ q' N', Hid (NS w w.heap.size wv (x :: q') N' wr) ∧ Hid (NI n qs (x :: q') N') ∧ Hid (∀ j (h : j < qs.length), j < i → qs[j].head = x → Cov N' qs[j]) ∧ Hid (2 * cntF N' + q'.length ≤ 2 * cntF N + q.length)) (fun iv _ _ => qs.length - (intOf iv).toNat)
      case atStart => exact ⟨0, Nat.zero_le _, rfl, q, N, HS, HN, fun j _ hj => by omega, Nat.le_refl _⟩
      case round =>
        clear HS HN
        obtain ⟨i, him, rfl, q', N', HS, HN, HC, HL⟩ := hrel
        have hqn : q'.length + 1 ≤ n := by have := HN.out.k; simp at this; omega
        by_cases hlt : i < qs.length
        · have hlt' : (i : Int) < (qs.length : Int) := by omega
          obtain ⟨b, off, rfl, K, kc, hnw⟩ := HR.out.at_ hlt
          have hn := hnw.keep HS.out.b
          have hpm := List.getElem_mem hlt
          have HPM := Lib.hid hpm
          have HPJ : Hid (∀ N2, (∀ j (h : j < qs.length), j < i → qs[j].head = x → Cov N2 qs[j]) → (qs[i].head = x → Cov N2 qs[i]) → ∀ j (h : j < qs.length), j < i + 1 → qs[j].head = x → Cov N2 qs[j]) := fun N2 h1 h2 j hj hji => by
            rcases Nat.lt_succ_iff_lt_or_eq.1 hji with h3 | h3
            · exact h1 j hj h3
            · subst h3; exact h2
          have c0 := hn.c0
          have c1 := hn.c1
          have HK := Lib.hid hnw.k
          clear hpm hn hnw
          generalize qs[i] = p at *
          rcases HS.out.r with ⟨_, h0⟩ | ⟨qb, qo, cap, cur, rfl, g1, g2, g3, g4, g5, g6⟩
          · cases h0
          · have hqc : wr.cell? ⟨qb, qo, none⟩ = some (.int .i64 (x : Nat)) := by rw [g2.cell]; exact g6 0 (by simp)
            have hqb := g2.lt
            clear g1 g2 g3 g4 g5 g6
            obtain ⟨m1, hm1⟩ : ∃ m1, (x :: q').length = m1 := ⟨_, rfl⟩
            have hm11 : q'.length + 1 = m1 := by simpa using hm1
            rw [hm1] at HS ⊢
            have hq1 : (0 : Int) < (m1 : Int) := by omega
            clear hm1
            by_cases hh : p.head = x
            · rw [hh] at c0
              have HH := Lib.hid hh
              clear hh
              have e1 : (((x : Nat) : Int) != ((x : Nat) : Int)) = false := by simp
              have e2 : (((x : Nat) : Int) == ((x : Nat) : Int)) = true := by simp
              have HS1 := Lib.hid (HS.out.keep (below_box (.cells #[.int .i64 (x : Nat), .slice K p.body.length kc] 57)))
              have y0 : (wr.alloc (.cells #[.int .i64 (x : Nat), .slice K p.body.length kc] 57)).cell? ⟨qb, qo, none⟩ = some (.int .i64 (x : Nat)) := cell_alloc hqc _
              go_wp2
              go_quiet (fail)
              have HS2 := Lib.hid (HS1.out.keep (below_drewN (Below.refl _ _) nq))
              have b1 : ((wr.alloc (.cells #[.int .i64 (x : Nat), .slice K p.body.length kc] 57)).drewN nq).cell? ⟨wr.heap.size, 1, none⟩ = some (.slice K p.body.length kc) := by simp
              generalize (wr.alloc (.cells #[.int .i64 (x : Nat), .slice K p.body.length kc] 57)).drewN nq = W1 at *
              clear HS HS1 y0 hqc hqb c0 c1 e1 e2 hq1 hqn
              obtain ⟨_, _, hb160, hbin⟩ := HF.out p HPM.out
              have HB := Lib.hid hbin
              clear hbin
              go_wp2
              go_loopw [36, 6] (fun tv wv wr => ∃ t : Nat, t ≤ p.body.length ∧ tv = .int .i64 t ∧ ∃ q2 N2, Hid (NS w w.heap.size wv (x :: q2) N2 wr) ∧ Hid (NI n qs (x :: q2) N2) ∧ Hid (∀ j (h : j < qs.length), j < i → qs[j].head = x → Cov N2 qs[j]) ∧ Hid (∀ u (h : u < p.body.length), u < t → 0 ≤ p.body[u].head → fl N2 p.body[u].head = true) ∧ Hid (2 * cntF N2 + q2.length ≤ 2 * cntF N + q.length)) (fun tv _ _ => p.body.length - (intOf tv).toNat)
              case atStart => exact ⟨0, Nat.zero_le _, rfl, q', N', HS2, HN, HC, fun u _ hu => by omega, HL⟩
              case round =>
                clear HS2 HN HC HL
                obtain ⟨t, htl, rfl, q2, N2, HS, HN, HC, HU, HL⟩ := hrel
                have hqn : q2.length + 1 ≤ n := by have := HN.out.k; simp at this; omega
                by_cases htt : t < p.body.length
                · have htt' : (t : Int) < (p.body.length : Int) := by omega
                  obtain ⟨sb, so, rfl, hsy⟩ := (HK.out.keep HS.out.b).at_ htt
                  have HSM := Lib.hid (List.getElem_mem htt)
                  have hin := HB.out _ HSM.out
                  have HUJ : Hid (∀ N3, (∀ u (h : u < p.body.length), u < t → 0 ≤ p.body[u].head → fl N3 p.body[u].head = true) → (0 ≤ p.body[t].head → fl N3 p.body[t].head = true) → ∀ u (h : u < p.body.length), u < t + 1 → 0 ≤ p.body[u].head → fl N3 p.body[u].head = true) := fun N3 h1 h2 u hu hut => by
                    rcases Nat.lt_succ_iff_lt_or_eq.1 hut with h3 | h3
                    · exact h1 u hu h3
                    · subst h3; exact h2
                  obtain ⟨s0, s1, s2⟩ := hsy
                  generalize p.body[t] = sy at *
                  by_cases hneg : sy.head = -1
                  · have e3 : (sy.head != -1) = false := by simp [hneg]
                    have HU3 := Lib.hid (HUJ.out N2 HU.out (fun h => by omega))
                    have HS3 := Lib.hid (HS.out.keep (below_box (.cells #[.int .i64 sy.head, .int .i64 sy.low, .int .i64 sy.high] 68)))
                    clear HU HS HUJ hneg hin
                    go_wp2
                    go_roundw
                    case rel => exact ⟨t + 1, by omega, by go_num, q2, N2, HS3, HN, HC, HU3, HL⟩
                    case measure => simp [intOf]; omega
                  · obtain ⟨y, hy⟩ : ∃ y : Nat, sy.head = y := ⟨sy.head.toNat, by omega⟩
                    have hyn : y < n := by omega
                    have hyn' : (y : Int) < (n : Int) := by omega
                    have HY := Lib.hid hy
                    rw [hy] at s0
                    have e3 : ((y : Int) != -1) = true := by simp
                    have hfl := HS.out.o.flag (k := (y : Int)) (by omega) (by rw [HN.out.l]; omega)
                    simp only [Int.toNat_natCast] at hfl
                    have hfb := HS.out.o.lt
                    have ffz := HS.out.o.frozen y
                    have HS3 := Lib.hid (HS.out.keep (below_box (.cells #[.int .i64 (y : Nat), .int .i64 sy.low, .int .i64 sy.high] 68)))
                    clear hy hneg hin
                    cases hq : fl N2 (y : Int)
                    · rw [hq] at hfl
                      have HN3 := Lib.hid (HN.out.add HPM.out HH.out HSM.out HY.out hyn hq)
                      have hyl : y < N2.length := by rw [HN.out.l]; exact hyn
                      have HC3 : Hid (∀ j (h : j < qs.length), j < i → qs[j].head = x → Cov (N2.set y true) qs[j]) := fun j h hj e => (HC.out j h hj e).up hyl
                      have HU3 := Lib.hid (HUJ.out (N2.set y true) (fun u hu hut h0 => fl_up hyl (HU.out u hu hut h0)) (fun _ => by rw [HY.out, fl_set hyl, if_pos (by omega)]))
                      have HL3 : Hid (2 * cntF (N2.set y true) + (q2 ++ [y]).length ≤ 2 * cntF N + q.length) := by
                        have h1 := cntF_set hyl (by rw [← fl_nat N2 y hyl]; exact hq)
                        have h2 := HL.out
                        show _ ≤ _
                        simp
                        omega
                      have HS4 := Lib.hid (((HS.out.flag y).keep (below_box (.cells #[.int .i64 (y : Nat), .int .i64 sy.low, .int .i64 sy.high] 68))).keep (below_box (.cells #[.int .i64 (y : Nat)] 3)))
                      have hws := HS.out.b.size
                      obtain ⟨QA2, m2, qc2, rfl⟩ : ∃ A m c, u6 = .slice A m c := by
                        obtain ⟨A3, c3, hv3⟩ := HS.out.r.shape
                        exact ⟨A3, _, c3, hv3⟩
                      clear hq HN HC HU HUJ HL HS HS3
                      go_wp2_with (at_builtin; refine wpList_append_q rfl _ _ rfl i0 Try.underlying81 HI.out.1 HI.out.2.1 HI.out.2.2.1 HI.out.2.2.2 w.heap.size _ (x :: q2) rfl HS4.out.r ⟨wr.heap.size + 1, 0, none⟩ y rfl ?c2 (by simp; omega) ?c3 ?_)
                      case c2 => have := cell_one_new ((wr.setCell ⟨w.heap.size, y, none⟩ (.bool true)).alloc (.cells #[.int .i64 (y : Nat), .int .i64 sy.low, .int .i64 sy.high] 68)) (.int .i64 (y : Nat)) 3; simpa using this
                      case c3 => simp; omega
                      intro v' w3 hq3 hg3 hat3
                      obtain ⟨A3, m3, c3, hv3⟩ : ∃ A m c, v' = .slice A m c := by
                        obtain ⟨A3, c3, hv3⟩ := hq3.shape
                        exact ⟨A3, _, c3, hv3⟩
                      subst hv3
                      have HS5 := Lib.hid (HS4.out.grow hg3 hq3)
                      clear hq3 hg3 hat3 HS4 hfl ffz s0 s1 s2
                      go_wp2
                      go_roundw
                      case rel => exact ⟨t + 1, by omega, by go_num, q2 ++ [y], N2.set y true, HS5, HN3, HC3, HU3, HL3⟩
                      case measure => simp [intOf]; omega
                    · rw [hq] at hfl
                      have HU3 := Lib.hid (HUJ.out N2 HU.out (fun _ => by rw [HY.out]; exact hq))
                      clear HU HS HUJ hq
                      go_wp2
                      go_roundw
                      case rel => exact ⟨t + 1, by omega, by go_num, q2, N2, HS3, HN, HC, HU3, HL⟩
                      case measure => simp [intOf]; omega
                · have htt' : ¬ (t : Int) < (p.body.length : Int) := by omega
                  have HC3 := Lib.hid (HPJ.out N2 HC.out (fun _ s hs h0 => by
                    obtain ⟨u, hu, rfl⟩ := List.getElem_of_mem hs
                    exact HU.out u hu (by omega) h0))
                  clear HC HU
                  go_wp2
                  go_roundw
                  case rel => exact ⟨i + 1, by omega, by go_num, q2, N2, HS, HN, HC3, HL⟩
                  case measure => simp [intOf]; omega
            · have HH := Lib.hid hh
              have e1 : (p.head != ((x : Nat) : Int)) = true := by simp [hh]
              have e2 : (p.head == ((x : Nat) : Int)) = false := by simp [hh]
              have HS1 := Lib.hid (HS.out.keep (below_box (.cells #[.int .i64 p.head, .slice K p.body.length kc] 57)))
              have y0 : (wr.alloc (.cells #[.int .i64 p.head, .slice K p.body.length kc] 57)).cell? ⟨qb, qo, none⟩ = some (.int .i64 (x : Nat)) := cell_alloc hqc _
              have HC2 := Lib.hid (HPJ.out N' HC.out (fun h => absurd h HH.out))
              clear hh
              go_wp2
              go_quiet (fail)
              go_wp2
              go_roundw
              case rel => exact ⟨i + 1, by omega, by go_num, q', N', HS1.out.keep (below_drewN (Below.refl _ _) _), HN, HC2, HL⟩
              case measure => simp [intOf]; omega
        · have hlt' : ¬ (i : Int) < (qs.length : Int) := by omega
          have HNT := Lib.hid (HN.out.take (fun p hp e => by
            obtain ⟨j, hj, rfl⟩ := List.getElem_of_mem hp
            exact HC.out j hj (by omega) e))
          have HMM : Hid (2 * cntF N' + q'.length < 2 * cntF N + (x :: q).length) := by have := HL.out; show _ < _; simp; omega
          have HRD : Hid (readN w.heap.size n wr = N') := by show _ = _; rw [← HN.out.l]; exact HS.out.read
          rcases HS.out.r with ⟨_, h0⟩ | ⟨qb, qo, cap, cur, rfl, g1, g2, g3, g4, g5, g6⟩
          · cases h0
          · have hc1 : 1 ≤ cap := by simp at g3; omega
            simp only [List.length_cons] at g3
            obtain ⟨m1, hm1⟩ : ∃ m1, (x :: q').length = m1 := ⟨_, rfl⟩
            have hm11 : q'.length + 1 = m1 := by simpa using hm1
            rw [hm1] at HS ⊢
            have hq1 : (1 : Int) ≤ (m1 : Int) := by omega
            have hm1q : q'.length = m1 - 1 := by omega
            clear hm1
            by_cases hcap : cap = 1
            · have HQ : Hid (NS w w.heap.size (.slice (some ⟨qb, qo, none⟩) (m1 - 1) 0) q' N' wr) := by
                have hql : q'.length = 0 := by omega
                refine ⟨HS.out.o, .inr ⟨qb, qo, 0, cur, by rw [hm1q], g1, g2, by omega, by omega, by omega, fun i hi => by omega⟩, HS.out.b, HS.out.g⟩
              have HMQ := Lib.hid hm1q
              clear g1 g2 g4 g5 g6 HS HC hm1q
              go_wp2
              go_roundw
              case rel => exact ⟨q', N', HQ, HNT⟩
              case measure => rw [HRD.out, HM1.out]; show 2 * cntF N' + (m1 - 1) < _; rw [← HMQ.out]; have := HMM.out; simp at this; omega
            · have hcap2 : 2 ≤ cap := by omega
              have HQ : Hid (NS w w.heap.size (.slice (some ⟨qb, qo + 1, none⟩) (m1 - 1) (cap - 1)) q' N' wr) := by
                refine ⟨HS.out.o, .inr ⟨qb, qo + 1, cap - 1, cur, by rw [hm1q], g1, g2, by omega, by omega, by omega, fun i hi => ?_⟩, HS.out.b, HS.out.g⟩
                have := g6 (i + 1) (by simpa using hi)
                rw [show qo + 1 + i = qo + (i + 1) by omega, this]; rfl
              have HMQ := Lib.hid hm1q
              clear g1 g2 g4 g5 g6 HS HC hm1q
              go_wp2
              go_roundw
              case rel => exact ⟨q', N', HQ, HNT⟩
              case measure => rw [HRD.out, HM1.out]; show 2 * cntF N' + (m1 - 1) < _; rw [← HMQ.out]; have := HMM.out; simp at this; omega

end Go.Proofs.Ytafldjbmheopjaa
