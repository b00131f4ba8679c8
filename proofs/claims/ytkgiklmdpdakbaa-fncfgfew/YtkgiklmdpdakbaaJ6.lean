/- The two functions that are asked of each production; the heads that are needed, while they are found. -/
import Derived.Test.YtkgiklmdpdakbaaM4
import Derived.Test.YtkgiklmdpdakbaaZ1
namespace Go.Proofs.Ytkgiklmdpdakbaa
open Go.RowKit
set_option linter.unusedVariables false

set_option maxRecDepth 100000 in
set_option maxHeartbeats 1000000 in
theorem clos34 (lb n cap : Nat) (A : Option Addr) (L : List Int) (p : Pd) (K : Option Addr) (kc : Nat) (w : World) (hc : w.cell? ⟨lb, 0, none⟩ = some (.slice A n cap)) (hr : Row w A (ints L)) (hL : L.length = n)
    (hk : Syms w K p.body) (hb : BodyIn n p.body) (hg : Good L) (hn : n ≤ 200) :
    Calls Try.prog 23 #[.agg #[.int .i64 p.head, .slice K p.body.length kc], .pointer (some ⟨lb, 0, none⟩)] w (fun e w' => e = .returned (.bool (!termB L p)) ∧ Below w.heap.size w w') := by
  have hlb := cell_lt hc
  simp only at hlb
  have HK := Lib.hid hk
  have HB := Lib.hid hb
  have HG := Lib.hid hg
  have HL := Lib.hid hL
  have HR := Lib.hid hr
  clear hk hb hg hL hr
  go_enter Try.func23, Try.ntmps23
  go_wp2_with fail
  refine (leastSum_n n p.body L K kc A cap _ (HK.out.keep (below_box _)) (HR.out.keep (below_box _)) HL.out HB.out HG.out hn).mono ?_
  rintro e w2 ⟨rfl, hb2⟩
  have hb' : Below w.heap.size w w2 := (below_box _).trans (hb2.mono (by simp))
  have HE : Hid (decide (sumOf L p.body < 0) = !termB L p) := by
    show _ = _
    unfold termB
    by_cases h : sumOf L p.body < 0
    · rw [decide_eq_true h, decide_eq_false (by omega)]; rfl
    · rw [decide_eq_false h, decide_eq_true (by omega)]; rfl
  generalize sumOf L p.body = z at *
  go_wp2
  go_ret
  exact ⟨ret_bool HE.out, hb'⟩

set_option maxRecDepth 100000 in
set_option maxHeartbeats 1000000 in
theorem clos36 (nb n fb : Nat) (N : List Bool) (p : Pd) (K : Option Addr) (kc : Nat) (w : World) (hc : w.cell? ⟨nb, 0, none⟩ = some (.slice (some ⟨fb, 0, none⟩) n n)) (ho : Own w fb 4 (bools N)) (hN : N.length = n) (h0 : 0 ≤ p.head) (h1 : p.head < n) :
    Calls Try.prog 26 #[.agg #[.int .i64 p.head, .slice K p.body.length kc], .pointer (some ⟨nb, 0, none⟩)] w (fun e w' => e = .returned (.bool (!fl N p.head)) ∧ Below w.heap.size w w') := by
  have hlb := cell_lt hc
  simp only at hlb
  have hfb := ho.lt
  have hf := ho.flag h0 (by omega)
  obtain ⟨x, hx⟩ : ∃ x : Nat, p.head = x := ⟨p.head.toNat, by omega⟩
  rw [hx] at hf h1 ⊢
  simp only [Int.toNat_natCast] at hf
  clear ho hx h0
  go_enter Try.func26, Try.ntmps26
  go_wp2
  go_ret
  exact ⟨rfl, below_box _⟩

/-- Heads that are needed, while they are found: which are known, and which of them are still to be looked at. -/
structure NI (n : Nat) (qs : List Pd) (q : List Nat) (N : List Bool) : Prop where
  l : N.length = n
  z : fl N 0 = true
  s : ∀ h, 0 ≤ h → fl N h = true → Need qs h
  qf : ∀ j ∈ q, j < n ∧ fl N (j : Int) = true
  c : ∀ h, 0 ≤ h → fl N h = true → (∃ j ∈ q, (j : Int) = h) ∨ ∀ p ∈ qs, p.head = h → Cov N p
  k : q.length + cntF N ≤ n

section
variable {n x : Nat} {qs : List Pd} {q : List Nat} {N : List Bool}
theorem NI.start (hn : 1 ≤ n) : NI n qs [0] ((List.replicate n false).set 0 true) := by
  have hl : 0 < (List.replicate n false).length := by simp; omega
  have hz : fl ((List.replicate n false).set 0 true) 0 = true := by rw [fl_set hl]; rfl
  have hall : ∀ h : Int, 0 ≤ h → fl ((List.replicate n false).set 0 true) h = true → h = 0 := by
    intro h h0 hh
    rw [fl_set hl] at hh
    split at hh
    · omega
    · exfalso
      unfold fl at hh
      rw [List.getD_eq_getElem?_getD, List.getElem?_replicate] at hh
      split at hh <;> cases hh
  refine ⟨by simp, hz, fun h h0 hh => by rw [hall h h0 hh]; exact Need.zero, fun j hj => ?_, fun h h0 hh => .inl ⟨0, by simp, by rw [hall h h0 hh]; rfl⟩, ?_⟩
  · rw [List.mem_singleton.1 hj]; exact ⟨by omega, hz⟩
  · have := cntF_set (N := List.replicate n false) (i := 0) hl (by simp)
    rw [cntF_replicate] at this
    simp; omega
theorem NI.add (h : NI n qs (x :: q) N) {p : Pd} {s : Sy} (hp : p ∈ qs) (hx : p.head = x) (hs : s ∈ p.body) {y : Nat} (hy : s.head = y) (hyn : y < n) (hf : fl N (y : Int) = false) : NI n qs (x :: (q ++ [y])) (N.set y true) := by
  have hl : y < N.length := by rw [h.l]; exact hyn
  refine ⟨by simpa using h.l, fl_up hl h.z, fun u h0 hu => ?_, fun j hj => ?_, fun u h0 hu => ?_, ?_⟩
  · rw [fl_set hl] at hu
    split at hu
    · have : u = s.head := by omega
      rw [this]
      refine Need.step p s hp ?_ hs (by omega)
      rw [hx]
      exact h.s _ (by omega) (h.qf x (List.mem_cons_self ..)).2
    · exact h.s u h0 hu
  · rw [← List.cons_append] at hj
    rcases List.mem_append.1 hj with h1 | h1
    · exact ⟨(h.qf j h1).1, fl_up hl (h.qf j h1).2⟩
    · rw [List.mem_singleton.1 h1]
      exact ⟨hyn, by rw [fl_set hl, if_pos (by omega)]⟩
  · rw [fl_set hl] at hu
    rw [← List.cons_append]
    split at hu
    · exact .inl ⟨y, List.mem_append_right _ (List.mem_singleton.2 rfl), by omega⟩
    · rcases h.c u h0 hu with ⟨j, hj, e⟩ | h2
      · exact .inl ⟨j, List.mem_append_left _ hj, e⟩
      · exact .inr (fun p hp e => (h2 p hp e).up hl)
  · have := cntF_set hl (by rw [← fl_nat N y hl]; exact hf)
    have := h.k
    simp at this ⊢
    omega
theorem NI.take (h : NI n qs (x :: q) N) (hc : ∀ p ∈ qs, p.head = x → Cov N p) : NI n qs q N := by
  refine ⟨h.l, h.z, h.s, fun j hj => h.qf j (List.mem_cons_of_mem _ hj), fun u h0 hu => ?_, by have := h.k; simp at this; omega⟩
  rcases h.c u h0 hu with ⟨j, hj, e⟩ | h2
  · rcases List.mem_cons.1 hj with rfl | hj
    · exact .inr (fun p hp e2 => hc p hp (by rw [e2, e]))
    · exact .inl ⟨j, hj, e⟩
  · exact .inr h2
theorem NI.done (h : NI n qs [] N) (hq : ∀ p ∈ qs, 0 ≤ p.head) : IsNeed n qs N := by
  refine ⟨h.l, h.z, h.s, fun p hp hf => ?_⟩
  rcases h.c p.head (hq p hp) hf with ⟨j, hj, _⟩ | h2
  · cases hj
  · exact h2 p hp rfl
end

end Go.Proofs.Ytkgiklmdpdakbaa

/- The heads that are needed: impl.neededHeads. -/
namespace Go.Proofs.Ytkgiklmdpdakbaa
open Go.RowKit
set_option linter.unusedVariables false

/-- Flags and a queue in memory. -/
structure NS (W : World) (fb : Nat) (v : Value) (q : List Nat) (N : List Bool) (w : World) : Prop where
  o : Own w fb 4 (bools N)
  r : QRow W.heap.size v q w
  b : Below W.heap.size W w
  g : W.heap.size ≤ fb

section
variable {W w w' : World} {fb : Nat} {v v' : Value} {q q' : List Nat} {N : List Bool}
theorem NS.keep (h : NS W fb v q N w) (hb : Below w.heap.size w w') : NS W fb v q N w' :=
  ⟨h.o.keep hb, h.r.same (fun b e => hb.block b (h.r.lt e).2.1), h.b.trans (hb.mono h.b.size), h.g⟩
theorem NS.ne (h : NS W fb v q N w) : v.ownBlock ≠ some fb := fun e => by
  obtain ⟨_, _, cur, hc⟩ := h.r.lt e
  exact h.o.ne hc (by decide) rfl
theorem NS.flag (h : NS W fb v q N w) (i : Nat) : NS W fb v q (N.set i true) (w.setCell ⟨fb, i, none⟩ (.bool true)) :=
  ⟨h.o.putFlag i true, h.r.same (fun b e => Below.heap_setCell w _ _ b (fun e2 => h.ne (by rw [e, e2]))), h.b.setCell h.g _, h.g⟩
theorem NS.grow (h : NS W fb v q N w) (hg : w.grownBy w' v.ownBlock) (hq : QRow W.heap.size v' q' w') : NS W fb v' q' N w' :=
  ⟨(hg.block fb h.o.lt (fun e => h.ne e.symm)).trans h.o, hq, h.b.grown hg h.b.size (fun k hk => (h.r.lt hk).1), h.g⟩
end

/-- What the flags of a block read as. -/
def readN (fb n : Nat) (w : World) : List Bool := (List.range n).map fun i => match w.cell? ⟨fb, i, none⟩ with | some (.bool b) => b | _ => false
theorem NS.read {W w : World} {fb : Nat} {v : Value} {q : List Nat} {N : List Bool} (h : NS W fb v q N w) : readN fb N.length w = N := by
  unfold readN
  apply List.ext_getElem (by simp)
  intro i h1 h2
  simp only [List.getElem_map, List.getElem_range]
  rw [h.o.cell]
  simp [bools, h2]
def lenOf : Value → Nat
  | .slice _ n _ => n
  | _ => 0
theorem QRow.lenOf {base : Nat} {v : Value} {q : List Nat} {w : World} (h : QRow base v q w) : lenOf v = q.length := by
  obtain ⟨A, cap, rfl⟩ := h.shape; rfl

/-- What neededHeads leaves. -/
def NeedPost (n : Nat) (qs : List Pd) (w : World) (e : Ending) (w' : World) : Prop :=
  ∃ g N, e = .returned (.slice (some ⟨g, 0, none⟩) n n) ∧ w.heap.size ≤ g ∧ Own w' g 4 (bools N) ∧ IsNeed n qs N ∧ Below w.heap.size w w'

set_option maxRecDepth 100000 in
set_option maxHeartbeats 4000000 in
theorem needed_any (n : Nat) (qs : List Pd) (A : Option Addr) (c : Nat) (w : World) (hr : Pds w A qs) (hf : Fit n qs) (hm : qs.length ≤ 400) (hn1 : 1 ≤ n) (hn2 : n ≤ 200) :
    Calls Try.prog 25 #[.slice A qs.length c, .int .i64 n] w (NeedPost n qs w) := by
  have HR := Lib.hid hr
  have HF := Lib.hid hf
  clear hr hf
  obtain ⟨i0, hi0, hz0, hz1, hz2⟩ := info_parts info3
  have HI := Lib.hid (And.intro hi0 (And.intro hz0 (And.intro hz1 hz2)))
  clear hi0 hz0 hz1 hz2
  have hmk := run_make_row' (P := Try.prog) 43 4 (.bool false) 1 Try.underlying43 info4 rfl .i64 .i64 n (by omega) (by omega)
  go_enter Try.func25, Try.ntmps25
  have hn0 : (0 : Int) < (n : Int) := by omega
  have HS0 : Hid (NS w w.heap.size (.slice (some ⟨w.heap.size + 1, 0, none⟩) 1 1) [0] ((List.replicate n false).set 0 true) ((w.alloc (.cells ((madeCells #[.bool false] n).setIfInBounds 0 (.bool true)) 4)).alloc (.cells #[.int .i64 0] 3))) := by
    have hO0 : Own (w.alloc (.cells ((madeCells #[.bool false] n).setIfInBounds 0 (.bool true)) 4)) w.heap.size 4 (bools ((List.replicate n false).set 0 true)) := by
      have := Own.new w 4 ((madeCells #[.bool false] n).setIfInBounds 0 (.bool true))
      rw [Array.toList_setIfInBounds, toList_madeCells_one] at this
      rw [← bools_set]
      simpa [bools] using this
    refine ⟨hO0.alloc _, .inr ⟨w.heap.size + 1, 0, 1, [.int .i64 0], rfl, by omega, ?_, by simp, by simp, by simp [maxLen], fun i hi => ?_⟩, (below_box _).alloc (by simp) _, Nat.le_refl _⟩
    · have := Own.new (w.alloc (.cells ((madeCells #[.bool false] n).setIfInBounds 0 (.bool true)) 4)) 3 #[.int .i64 0]
      rw [World.size_alloc] at this
      exact this
    · have : i = 0 := by simp at hi; omega
      subst this; rfl
  have HN0 : Hid (NI n qs [0] ((List.replicate n false).set 0 true)) := NI.start hn1
  have hmc : (madeCells #[.bool false] n)[0]? = some (.bool false) := by
    rw [← Array.getElem?_toList, toList_madeCells_one, List.getElem?_replicate, if_pos (by omega)]
  go_wp2
  generalize ((w.alloc (.cells ((madeCells #[.bool false] n).setIfInBounds 0 (.bool true)) 4)).alloc (.cells #[.int .i64 0] 3)) = W0 at *
  clear hmk hmc
  go_loopw [6] (fun wv wr => ∃ q N, Hid (NS w w.heap.size wv q N wr) ∧ Hid (NI n qs q N)) (fun wv wr => 2 * cntF (readN w.heap.size n wr) + lenOf wv)
  case atStart => exact ⟨_, _, HS0, HN0⟩
  case round =>
    clear HS0 HN0
    obtain ⟨q, N, HS, HN⟩ := hrel
    obtain ⟨QA, qc, rfl⟩ := HS.out.r.shape
    have HM1 : Hid (2 * cntF (readN w.heap.size n wr) + lenOf (.slice QA q.length qc) = 2 * cntF N + q.length) := by
      show _ = _
      rw [← HN.out.l, HS.out.read]; rfl
    cases q with
    | nil =>
      have HNN := Lib.hid (HN.out.done (fun p hp => (HF.out p hp).1))
      go_wp2
      go_ret
      exact ⟨_, N, rfl, Nat.le_refl _, HS.out.o, HNN.out, HS.out.b⟩
    | cons x q =>
      obtain ⟨m0, hm0⟩ : ∃ m0, (x :: q).length = m0 := ⟨_, rfl⟩
      have hm01 : q.length + 1 = m0 := by simpa using hm0
      rw [hm0] at HS HM1 ⊢
      have hq0 : (0 : Int) < (m0 : Int) := by omega
      have hp0 : 0 < m0 := by omega
      clear hm0
      go_wp2
      go_loopw [23, 6] (fun iv wv wr => ∃ i : Nat, i ≤ qs.length ∧ iv = .int .i64 i ∧ ∃ q' N', Hid (NS w w.heap.size wv (x :: q') N' wr) ∧ Hid (NI n qs (x :: q') N') ∧ Hid (∀ j (h : j < qs.length), j < i → qs[j].head = x → Cov N' qs[j]) ∧ Hid (2 * cntF N' + q'.length ≤ 2 * cntF N + q.length)) (fun iv _ _ => qs.length - (intOf iv).toNat)
      case atStart => exact ⟨0, Nat.zero_le _, rfl, q, N, HS, HN, fun j _ hj => by omega, Nat.le_refl _⟩
      case round =>
        clear HS HN
        obtain ⟨i, him, rfl, q', N', HS, HN, HC, HL⟩ := hrel
        have hqn : q'.length + 1 ≤ n := by have := HN.out.k; simp at this; omega
        by_cases hlt : i < qs.length
        · have hlt' : (i : Int) < (qs.length : Int) := by omega
          obtain ⟨b, off, rfl, K, kc, hnw⟩ := HR.out.at_ hlt
          have hn := hnw.keep HS.out.b
          have hpm := List.getElem_mem hlt
          have HPM := Lib.hid hpm
          have HPJ : Hid (∀ N2, (∀ j (h : j < qs.length), j < i → qs[j].head = x → Cov N2 qs[j]) → (qs[i].head = x → Cov N2 qs[i]) → ∀ j (h : j < qs.length), j < i + 1 → qs[j].head = x → Cov N2 qs[j]) := fun N2 h1 h2 j hj hji => by
            rcases Nat.lt_succ_iff_lt_or_eq.1 hji with h3 | h3
            · exact h1 j hj h3
            · subst h3; exact h2
          have c0 := hn.c0
          have c1 := hn.c1
          have HK := Lib.hid hnw.k
          clear hpm hn hnw
          generalize qs[i] = p at *
          rcases HS.out.r with ⟨_, h0⟩ | ⟨qb, qo, cap, cur, rfl, g1, g2, g3, g4, g5, g6⟩
          · cases h0
          · have hqc : wr.cell? ⟨qb, qo, none⟩ = some (.int .i64 (x : Nat)) := by rw [g2.cell]; exact g6 0 (by simp)
            have hqb := g2.lt
            clear g1 g2 g3 g4 g5 g6
            obtain ⟨m1, hm1⟩ : ∃ m1, (x :: q').length = m1 := ⟨_, rfl⟩
            have hm11 : q'.length + 1 = m1 := by simpa using hm1
            rw [hm1] at HS ⊢
            have hq1 : (0 : Int) < (m1 : Int) := by omega
            clear hm1
            by_cases hh : p.head = x
            · rw [hh] at c0
              have HH := Lib.hid hh
              clear hh
              have e1 : (((x : Nat) : Int) != ((x : Nat) : Int)) = false := by simp
              have e2 : (((x : Nat) : Int) == ((x : Nat) : Int)) = true := by simp
              have HS1 := Lib.hid (HS.out.keep (below_box (.cells #[.int .i64 (x : Nat), .slice K p.body.length kc] 46)))
              have y0 : (wr.alloc (.cells #[.int .i64 (x : Nat), .slice K p.body.length kc] 46)).cell? ⟨qb, qo, none⟩ = some (.int .i64 (x : Nat)) := cell_alloc hqc _
              go_wp2
              go_quiet (fail)
              have HS2 := Lib.hid (HS1.out.keep (below_drewN (Below.refl _ _) nq))
              have b1 : ((wr.alloc (.cells #[.int .i64 (x : Nat), .slice K p.body.length kc] 46)).drewN nq).cell? ⟨wr.heap.size, 1, none⟩ = some (.slice K p.body.length kc) := by simp
              generalize (wr.alloc (.cells #[.int .i64 (x : Nat), .slice K p.body.length kc] 46)).drewN nq = W1 at *
              clear HS HS1 y0 hqc hqb c0 c1 e1 e2 hq1 hqn
              obtain ⟨_, _, hb160, hbin⟩ := HF.out p HPM.out
              have HB := Lib.hid hbin
              clear hbin
              go_wp2
              go_loopw [36, 6] (fun tv wv wr => ∃ t : Nat, t ≤ p.body.length ∧ tv = .int .i64 t ∧ ∃ q2 N2, Hid (NS w w.heap.size wv (x :: q2) N2 wr) ∧ Hid (NI n qs (x :: q2) N2) ∧ Hid (∀ j (h : j < qs.length), j < i → qs[j].head = x → Cov N2 qs[j]) ∧ Hid (∀ u (h : u < p.body.length), u < t → 0 ≤ p.body[u].head → fl N2 p.body[u].head = true) ∧ Hid (2 * cntF N2 + q2.length ≤ 2 * cntF N + q.length)) (fun tv _ _ => p.body.length - (intOf tv).toNat)
              case atStart => exact ⟨0, Nat.zero_le _, rfl, q', N', HS2, HN, HC, fun u _ hu => by omega, HL⟩
              case round =>
                clear HS2 HN HC HL
                obtain ⟨t, htl, rfl, q2, N2, HS, HN, HC, HU, HL⟩ := hrel
                have hqn : q2.length + 1 ≤ n := by have := HN.out.k; simp at this; omega
                by_cases htt : t < p.body.length
                · have htt' : (t : Int) < (p.body.length : Int) := by omega
                  obtain ⟨sb, so, rfl, hsy⟩ := (HK.out.keep HS.out.b).at_ htt
                  have HSM := Lib.hid (List.getElem_mem htt)
                  have hin := HB.out _ HSM.out
                  have HUJ : Hid (∀ N3, (∀ u (h : u < p.body.length), u < t → 0 ≤ p.body[u].head → fl N3 p.body[u].head = true) → (0 ≤ p.body[t].head → fl N3 p.body[t].head = true) → ∀ u (h : u < p.body.length), u < t + 1 → 0 ≤ p.body[u].head → fl N3 p.body[u].head = true) := fun N3 h1 h2 u hu hut => by
                    rcases Nat.lt_succ_iff_lt_or_eq.1 hut with h3 | h3
                    · exact h1 u hu h3
                    · subst h3; exact h2
                  obtain ⟨s0, s1, s2⟩ := hsy
                  generalize p.body[t] = sy at *
                  by_cases hneg : sy.head = -1
                  · have e3 : (sy.head != -1) = false := by simp [hneg]
                    have HU3 := Lib.hid (HUJ.out N2 HU.out (fun h => by omega))
                    have HS3 := Lib.hid (HS.out.keep (below_box (.cells #[.int .i64 sy.head, .int .i64 sy.low, .int .i64 sy.high] 49)))
                    clear HU HS HUJ hneg hin
                    go_wp2
                    go_roundw
                    case rel => exact ⟨t + 1, by omega, by go_num, q2, N2, HS3, HN, HC, HU3, HL⟩
                    case measure => simp [intOf]; omega
                  · obtain ⟨y, hy⟩ : ∃ y : Nat, sy.head = y := ⟨sy.head.toNat, by omega⟩
                    have hyn : y < n := by omega
                    have hyn' : (y : Int) < (n : Int) := by omega
                    have HY := Lib.hid hy
                    rw [hy] at s0
                    have e3 : ((y : Int) != -1) = true := by simp
                    have hfl := HS.out.o.flag (k := (y : Int)) (by omega) (by rw [HN.out.l]; omega)
                    simp only [Int.toNat_natCast] at hfl
                    have hfb := HS.out.o.lt
                    have ffz := HS.out.o.frozen y
                    have HS3 := Lib.hid (HS.out.keep (below_box (.cells #[.int .i64 (y : Nat), .int .i64 sy.low, .int .i64 sy.high] 49)))
                    clear hy hneg hin
                    cases hq : fl N2 (y : Int)
                    · rw [hq] at hfl
                      have HN3 := Lib.hid (HN.out.add HPM.out HH.out HSM.out HY.out hyn hq)
                      have hyl : y < N2.length := by rw [HN.out.l]; exact hyn
                      have HC3 : Hid (∀ j (h : j < qs.length), j < i → qs[j].head = x → Cov (N2.set y true) qs[j]) := fun j h hj e => (HC.out j h hj e).up hyl
                      have HU3 := Lib.hid (HUJ.out (N2.set y true) (fun u hu hut h0 => fl_up hyl (HU.out u hu hut h0)) (fun _ => by rw [HY.out, fl_set hyl, if_pos (by omega)]))
                      have HL3 : Hid (2 * cntF (N2.set y true) + (q2 ++ [y]).length ≤ 2 * cntF N + q.length) := by
                        have h1 := cntF_set hyl (by rw [← fl_nat N2 y hyl]; exact hq)
                        have h2 := HL.out
                        show _ ≤ _
                        simp
                        omega
                      have HS4 := Lib.hid (((HS.out.flag y).keep (below_box (.cells #[.int .i64 (y : Nat), .int .i64 sy.low, .int .i64 sy.high] 49))).keep (below_box (.cells #[.int .i64 (y : Nat)] 3)))
                      have hws := HS.out.b.size
                      obtain ⟨QA2, m2, qc2, rfl⟩ : ∃ A m c, u6 = .slice A m c := by
                        obtain ⟨A3, c3, hv3⟩ := HS.out.r.shape
                        exact ⟨A3, _, c3, hv3⟩
                      clear hq HN HC HU HUJ HL HS HS3
                      go_wp2_with (at_builtin; refine wpList_append_q rfl _ _ rfl i0 Try.underlying41 HI.out.1 HI.out.2.1 HI.out.2.2.1 HI.out.2.2.2 w.heap.size _ (x :: q2) rfl HS4.out.r ⟨wr.heap.size + 1, 0, none⟩ y rfl ?c2 (by simp; omega) ?c3 ?_)
                      case c2 => have := cell_one_new ((wr.setCell ⟨w.heap.size, y, none⟩ (.bool true)).alloc (.cells #[.int .i64 (y : Nat), .int .i64 sy.low, .int .i64 sy.high] 49)) (.int .i64 (y : Nat)) 3; simpa using this
                      case c3 => simp; omega
                      intro v' w3 hq3 hg3 hat3
                      obtain ⟨A3, m3, c3, hv3⟩ : ∃ A m c, v' = .slice A m c := by
                        obtain ⟨A3, c3, hv3⟩ := hq3.shape
                        exact ⟨A3, _, c3, hv3⟩
                      subst hv3
                      have HS5 := Lib.hid (HS4.out.grow hg3 hq3)
                      clear hq3 hg3 hat3 HS4 hfl ffz s0 s1 s2
                      go_wp2
                      go_roundw
                      case rel => exact ⟨t + 1, by omega, by go_num, q2 ++ [y], N2.set y true, HS5, HN3, HC3, HU3, HL3⟩
                      case measure => simp [intOf]; omega
                    · rw [hq] at hfl
                      have HU3 := Lib.hid (HUJ.out N2 HU.out (fun _ => by rw [HY.out]; exact hq))
                      clear HU HS HUJ hq
                      go_wp2
                      go_roundw
                      case rel => exact ⟨t + 1, by omega, by go_num, q2, N2, HS3, HN, HC, HU3, HL⟩
                      case measure => simp [intOf]; omega
                · have htt' : ¬ (t : Int) < (p.body.length : Int) := by omega
                  have HC3 := Lib.hid (HPJ.out N2 HC.out (fun _ s hs h0 => by
                    obtain ⟨u, hu, rfl⟩ := List.getElem_of_mem hs
                    exact HU.out u hu (by omega) h0))
                  clear HC HU
                  go_wp2
                  go_roundw
                  case rel => exact ⟨i + 1, by omega, by go_num, q2, N2, HS, HN, HC3, HL⟩
                  case measure => simp [intOf]; omega
            · have HH := Lib.hid hh
              have e1 : (p.head != ((x : Nat) : Int)) = true := by simp [hh]
              have e2 : (p.head == ((x : Nat) : Int)) = false := by simp [hh]
              have HS1 := Lib.hid (HS.out.keep (below_box (.cells #[.int .i64 p.head, .slice K p.body.length kc] 46)))
              have y0 : (wr.alloc (.cells #[.int .i64 p.head, .slice K p.body.length kc] 46)).cell? ⟨qb, qo, none⟩ = some (.int .i64 (x : Nat)) := cell_alloc hqc _
              have HC2 := Lib.hid (HPJ.out N' HC.out (fun h => absurd h HH.out))
              clear hh
              go_wp2
              go_quiet (fail)
              go_wp2
              go_roundw
              case rel => exact ⟨i + 1, by omega, by go_num, q', N', HS1.out.keep (below_drewN (Below.refl _ _) _), HN, HC2, HL⟩
              case measure => simp [intOf]; omega
        · have hlt' : ¬ (i : Int) < (qs.length : Int) := by omega
          have HNT := Lib.hid (HN.out.take (fun p hp e => by
            obtain ⟨j, hj, rfl⟩ := List.getElem_of_mem hp
            exact HC.out j hj (by omega) e))
          have HMM : Hid (2 * cntF N' + q'.length < 2 * cntF N + (x :: q).length) := by have := HL.out; show _ < _; simp; omega
          have HRD : Hid (readN w.heap.size n wr = N') := by show _ = _; rw [← HN.out.l]; exact HS.out.read
          rcases HS.out.r with ⟨_, h0⟩ | ⟨qb, qo, cap, cur, rfl, g1, g2, g3, g4, g5, g6⟩
          · cases h0
          · have hc1 : 1 ≤ cap := by simp at g3; omega
            simp only [List.length_cons] at g3
            obtain ⟨m1, hm1⟩ : ∃ m1, (x :: q').length = m1 := ⟨_, rfl⟩
            have hm11 : q'.length + 1 = m1 := by simpa using hm1
            rw [hm1] at HS ⊢
            have hq1 : (1 : Int) ≤ (m1 : Int) := by omega
            have hm1q : q'.length = m1 - 1 := by omega
            clear hm1
            by_cases hcap : cap = 1
            · have HQ : Hid (NS w w.heap.size (.slice (some ⟨qb, qo, none⟩) (m1 - 1) 0) q' N' wr) := by
                have hql : q'.length = 0 := by omega
                refine ⟨HS.out.o, .inr ⟨qb, qo, 0, cur, by rw [hm1q], g1, g2, by omega, by omega, by omega, fun i hi => by omega⟩, HS.out.b, HS.out.g⟩
              have HMQ := Lib.hid hm1q
              clear g1 g2 g4 g5 g6 HS HC hm1q
              go_wp2
              go_roundw
              case rel => exact ⟨q', N', HQ, HNT⟩
              case measure => rw [HRD.out, HM1.out]; show 2 * cntF N' + (m1 - 1) < _; rw [← HMQ.out]; have := HMM.out; simp at this; omega
            · have hcap2 : 2 ≤ cap := by omega
              have HQ : Hid (NS w w.heap.size (.slice (some ⟨qb, qo + 1, none⟩) (m1 - 1) (cap - 1)) q' N' wr) := by
                refine ⟨HS.out.o, .inr ⟨qb, qo + 1, cap - 1, cur, by rw [hm1q], g1, g2, by omega, by omega, by omega, fun i hi => ?_⟩, HS.out.b, HS.out.g⟩
                have := g6 (i + 1) (by simpa using hi)
                rw [show qo + 1 + i = qo + (i + 1) by omega, this]; rfl
              have HMQ := Lib.hid hm1q
              clear g1 g2 g4 g5 g6 HS HC hm1q
              go_wp2
              go_roundw
              case rel => exact ⟨q', N', HQ, HNT⟩
              case measure => rw [HRD.out, HM1.out]; show 2 * cntF N' + (m1 - 1) < _; rw [← HMQ.out]; have := HMM.out; simp at this; omega

end Go.Proofs.Ytkgiklmdpdakbaa

/- Productions that are one's own, bodies and all. -/
namespace Go.Proofs.Ytkgiklmdpdakbaa
open Go.RowKit
set_option linter.unusedVariables false

/-- Productions that are one's own: a row of them, and a row of symbols for each, none of which is another's. -/
structure OG (w : World) (base : Nat) (A : Option Addr) (cap : Nat) (xs : List Pv) : Prop where
  o : w.ownsRow base 46 2 (.slice A xs.length cap) xs.length (pvCells xs)
  d : ∀ i (h : i < xs.length), w.ownsRow base 49 3 xs[i].sl xs[i].p.body.length (symCells xs[i].p.body)
  ap : ∀ i j (hi : i < xs.length) (hj : j < xs.length), i ≠ j → ∀ b, xs[i].sl.ownBlock = some b → xs[j].sl.ownBlock ≠ some b

theorem OG.keep {w w' : World} {base : Nat} {A : Option Addr} {cap : Nat} {xs : List Pv} (h : OG w base A cap xs) (hb : Below w.heap.size w w') : OG w' base A cap xs :=
  ⟨own_keep h.o hb, fun i hi => own_keep (h.d i hi) hb, h.ap⟩
theorem OG.pds {w : World} {base : Nat} {A : Option Addr} {cap : Nat} {xs : List Pv} (h : OG w base A cap xs) : Pds w A (xs.map Pv.p) := by
  refine row_pds (own_rowN h.o) (fun x hx => ?_)
  obtain ⟨i, hi, rfl⟩ := List.getElem_of_mem hx
  exact (own_rowN (h.d i hi)).syms

theorem own_ne {w : World} {base base' : Nat} {e e' : TypeId} {size size' : Nat} {v v' : Value} {n n' : Nat} {xs xs' : List Value} (h : w.ownsRow base e size v n xs) (h' : w.ownsRow base' e' size' v' n' xs') (he : e ≠ e') : ∀ b, v.ownBlock = some b → v'.ownBlock ≠ some b := by
  intro b hb hb'
  rcases h with ⟨_, ⟨rfl, rfl⟩ | ⟨g, cap, cur, rfl, h1, h2, h3⟩⟩
  · cases hb
  · rcases h' with ⟨_, ⟨rfl, rfl⟩ | ⟨g', cap', cur', rfl, h1', h2', h3'⟩⟩
    · cases hb'
    · injection hb with hb
      injection hb' with hb'
      subst hb
      subst hb'
      rw [h2] at h2'
      injection h2' with h2'
      injection h2' with _ h2'
      exact he h2'

/-- While the bodies of productions are made one's own. -/
structure TRS (W : World) (A : Option Addr) (cap : Nat) (ys : List Pv) (k : Nat) (zs : List Pv) (w : World) : Prop where
  l : zs.length = ys.length
  p : zs.map Pv.p = ys.map Pv.p
  r : ∀ i (h : i < zs.length) (h' : i < ys.length), k ≤ i → zs[i] = ys[i]
  o : w.ownsRow W.heap.size 46 2 (.slice A ys.length cap) ys.length (pvCells zs)
  d : ∀ i (h : i < zs.length), i < k → w.ownsRow W.heap.size 49 3 zs[i].sl zs[i].p.body.length (symCells zs[i].p.body)
  ap : ∀ i j (hi : i < zs.length) (hj : j < zs.length), i < k → j < k → i ≠ j → ∀ b, zs[i].sl.ownBlock = some b → zs[j].sl.ownBlock ≠ some b
  b : Below W.heap.size W w

theorem TRS.keep {W w w' : World} {A : Option Addr} {cap k : Nat} {ys zs : List Pv} (h : TRS W A cap ys k zs w) (hb : Below w.heap.size w w') : TRS W A cap ys k zs w' :=
  ⟨h.l, h.p, h.r, own_keep h.o hb, fun i hi hk => own_keep (h.d i hi hk) hb, h.ap, h.b.trans (hb.mono h.b.size)⟩

theorem TRS.put {W w : World} {g cap k B c' : Nat} {K' : Option Addr} {ys zs : List Pv} (h : TRS W (some ⟨g, 0, none⟩) cap ys k zs w) (hk : k < ys.length)
    (hnew : w.ownsRow B 49 3 (.slice K' ys[k].p.body.length c') ys[k].p.body.length (symCells ys[k].p.body)) (hB : W.heap.size ≤ B) (hlt : ∀ i (h : i < zs.length), i < k → ∀ b, zs[i].sl.ownBlock = some b → b < B) :
    TRS W (some ⟨g, 0, none⟩) cap ys (k + 1) (zs.set k ⟨ys[k].p, K', c'⟩) (w.setCell ⟨g, k * 2 + 1, none⟩ (.slice K' ys[k].p.body.length c')) := by
  have hl := h.l
  have hzk : zs[k]'(by omega) = ys[k] := h.r k (by omega) hk (Nat.le_refl _)
  have hgW : W.heap.size ≤ g := (h.o.lt g rfl).1
  refine ⟨by simpa using hl, ?_, ?_, ?_, ?_, ?_, h.b.setCell hgW _⟩
  · rw [List.map_set, h.p]
    apply List.ext_getElem (by simp)
    intro i h1 h2
    rw [List.getElem_set]
    split
    · rename_i e; subst e; simp
    · rfl
  · intro i hi hi' hki
    rw [List.getElem_set_ne (by omega)]
    exact h.r i (by simpa using hi) hi' (by omega)
  · have := own_setN h.o (k * 2 + 1) (by omega) (.slice K' ys[k].p.body.length c')
    have e : (pvCells zs).set (k * 2 + 1) (.slice K' ys[k].p.body.length c') = pvCells (zs.set k ⟨ys[k].p, K', c'⟩) := by
      have e2 := pvCells_set zs ⟨ys[k].p, K', c'⟩ k (by omega)
      rw [← e2]
      have e3 : (pvCells zs).set (k * 2) (.int .i64 ys[k].p.head) = pvCells zs := by
        have := (pvCells_get zs k (by omega)).1
        rw [hzk] at this
        obtain ⟨h1, h2⟩ := List.getElem?_eq_some_iff.1 this
        rw [← h2]
        exact List.set_getElem_self h1
      show _ = ((pvCells zs).set (k * 2) (.int .i64 ys[k].p.head)).set (k * 2 + 1) _
      rw [e3]; rfl
    rw [e] at this
    exact this
  · intro i hi hik
    rw [List.getElem_set]
    split
    · refine own_far (own_base hnew hB) (fun b hb => ?_) _
      have := own_ne h.o hnew (by decide) g rfl
      intro e
      exact this (by rw [hb, e])
    · have hi' : i < zs.length := by simpa using hi
      refine own_far (h.d i hi' (by omega)) (fun b hb => ?_) _
      have := own_ne h.o (h.d i hi' (by omega)) (by decide) g rfl
      intro e
      exact this (by rw [hb, e])
  · intro i j hi hj hik hjk hij b
    have hi' : i < zs.length := by simpa using hi
    have hj' : j < zs.length := by simpa using hj
    rw [List.getElem_set, List.getElem_set]
    split
    · rename_i e
      rw [if_neg (by omega)]
      intro h1 h2
      have h3 := hlt j hj' (by omega) b h2
      have h4 := (hnew.lt b h1).1
      omega
    · split
      · intro h1 h2
        have h3 := hlt i hi' (by omega) b h1
        have h4 := (hnew.lt b h2).1
        omega
      · exact h.ap i j hi' hj' (by omega) (by omega) hij b

theorem TRS.done {W w : World} {A : Option Addr} {cap k : Nat} {ys zs : List Pv} (h : TRS W A cap ys k zs w) (hk : ys.length ≤ k) : OG w W.heap.size A cap zs := by
  have hl := h.l
  exact ⟨by rw [hl]; exact h.o, fun i hi => h.d i hi (by omega), fun i j hi hj hij => h.ap i j hi hj (by omega) (by omega) hij⟩

theorem OG.far {w : World} {base g i : Nat} {t : TypeId} {A : Option Addr} {cap : Nat} {xs : List Pv} {ys : List Value} (h : OG w base A cap xs) (ho : Own w g t ys) (h1 : 46 ≠ t) (h2 : 49 ≠ t) (u : Value) : OG (w.setCell ⟨g, i, none⟩ u) base A cap xs :=
  ⟨own_far h.o (own_ne_own h.o ho h1) u, fun i hi => own_far (h.d i hi) (own_ne_own (h.d i hi) ho h2) u, h.ap⟩

/-- What impl.CfgTrim leaves. -/
def TrimPost (hd : Int) (ps : List Pd) (w : World) (e : Ending) (w' : World) : Prop :=
  ∃ hd' A cap zs, e = .returned (.agg #[.int .i64 hd', .slice A zs.length cap]) ∧ IsTrim hd ps hd' (zs.map Pv.p) ∧ OG w' w.heap.size A cap zs ∧ Below w.heap.size w w'

theorem filter_map_p (xs : List Pv) (f : Pd → Bool) : (xs.filter (fun x => f x.p)).map Pv.p = (xs.map Pv.p).filter f := by
  induction xs with
  | nil => rfl
  | cons x r ih =>
    simp only [List.filter_cons, List.map_cons]
    cases h : f x.p
    · simp [ih]
    · simp [ih]
theorem OB.ge {A : Option Addr} {n cap : Nat} {base : Nat} {w : World} {e : TypeId} {size : Nat} {xs : List Value} (h : w.ownsRow base e size (.slice A n cap) n xs) {k : Nat} (hk : OB A k) : base ≤ k ∧ k < w.heap.size := by
  refine h.lt k ?_
  unfold OB at hk
  cases A with
  | none => cases hk
  | some a => exact hk

theorem IsLeast.good {n : Nat} {ps : List Pd} {L : List Int} (h : IsLeast (n : Int) ps L) (hok : cfgOkB (n : Int) ps = true) : Good L ∧ L.length = n := by
  unfold IsLeast at h
  rw [if_pos hok] at h
  simp only [Int.toNat_natCast] at h
  exact ⟨h.1.good (ok_fit hok).1, h.1.length⟩

end Go.Proofs.Ytkgiklmdpdakbaa

/- What spec.CfgTrim has in memory. -/
namespace Go.Proofs.Ytkgiklmdpdakbaa
open Go.RowKit
set_option linter.unusedVariables false

/-- Flags in memory. -/
structure FS (W : World) (fb : Nat) (N : List Bool) (w : World) : Prop where
  o : Own w fb 4 (bools N)
  b : Below W.heap.size W w
  g : W.heap.size ≤ fb
theorem FS.keep {W w w' : World} {fb : Nat} {N : List Bool} (h : FS W fb N w) (hb : Below w.heap.size w w') : FS W fb N w' := ⟨h.o.keep hb, h.b.trans (hb.mono h.b.size), h.g⟩
theorem FS.flag {W w : World} {fb : Nat} {N : List Bool} (h : FS W fb N w) (i : Nat) : FS W fb (N.set i true) (w.setCell ⟨fb, i, none⟩ (.bool true)) := ⟨h.o.putFlag i true, h.b.setCell h.g _, h.g⟩
theorem FS.read {W w : World} {fb : Nat} {N : List Bool} (h : FS W fb N w) : readN fb N.length w = N := by
  unfold readN
  apply List.ext_getElem (by simp)
  intro i h1 h2
  simp only [List.getElem_map, List.getElem_range]
  rw [h.o.cell]
  simp [bools, h2]

/-- Whatever is flagged is needed. -/
structure Snd (n : Nat) (qs : List Pd) (N : List Bool) : Prop where
  l : N.length = n
  z : fl N 0 = true
  s : ∀ h, 0 ≤ h → fl N h = true → Need qs h
theorem Snd.start {n : Nat} {qs : List Pd} (hn : 1 ≤ n) : Snd n qs ((List.replicate n false).set 0 true) := by
  have h := NI.start (n := n) (qs := qs) hn
  exact ⟨h.l, h.z, h.s⟩
theorem Snd.add {n y : Nat} {qs : List Pd} {N : List Bool} (h : Snd n qs N) {p : Pd} {s : Sy} (hp : p ∈ qs) (h0 : 0 ≤ p.head) (hf : fl N p.head = true) (hs : s ∈ p.body) (hy : s.head = y) (hyn : y < n) : Snd n qs (N.set y true) := by
  have hl : y < N.length := by rw [h.l]; exact hyn
  refine ⟨by simpa using h.l, fl_up hl h.z, fun u hu0 hu => ?_⟩
  rw [fl_set hl] at hu
  split at hu
  · have : u = s.head := by omega
    rw [this]
    exact Need.step p s hp (h.s _ h0 hf) hs (by omega)
  · exact h.s u hu0 hu

theorem grown_own {w w' : World} {base : Nat} {e e' : TypeId} {size size' : Nat} {v v' : Value} {n n' : Nat} {xs xs' : List Value} (hg : w.grownBy w' v.ownBlock) (h : w.ownsRow base e size v n xs) (h' : w.ownsRow base e' size' v' n' xs') (he : e ≠ e') : w'.ownsRow base e' size' v' n' xs' := by
  have hne := own_ne h' h (fun h => he h.symm)
  rcases h' with ⟨hl, ⟨rfl, rfl⟩ | ⟨g, cap, cur, rfl, h1, h2, h3⟩⟩
  · exact ⟨hl, .inl ⟨rfl, rfl⟩⟩
  · exact ⟨hl, .inr ⟨g, cap, cur, rfl, h1, (hg.block g (Array.getElem?_eq_some_iff.1 h2).1 (fun e => hne g rfl e.symm)).trans h2, h3⟩⟩

/-- One more production is put behind the others. -/
theorem OG.push {w w' : World} {base B cap cap' : Nat} {A A' : Option Addr} {zs : List Pv} {x : Pv} (h : OG w base A cap zs) (hon : w.ownsRow B 49 3 x.sl x.p.body.length (symCells x.p.body)) (hB : base ≤ B)
    (hlt : ∀ i (hi : i < zs.length) b, zs[i].sl.ownBlock = some b → b < B) (hg : w.grownBy w' (Value.slice A zs.length cap).ownBlock)
    (ho' : w'.ownsRow base 46 2 (.slice A' (zs.length + 1) cap') (zs.length + 1) (pvCells zs ++ pvCells [x])) : OG w' base A' cap' (zs ++ [x]) := by
  refine ⟨?_, fun i hi => ?_, fun i j hi hj hij b => ?_⟩
  · rw [pvCells_append]
    simpa using ho'
  · by_cases h1 : i < zs.length
    · rw [List.getElem_append_left h1]
      exact grown_own hg h.o (h.d i h1) (by decide)
    · have : i = zs.length := by simp at hi; omega
      subst this
      simp only [List.getElem_concat_length]
      exact grown_own hg h.o (own_base hon hB) (by decide)
  · by_cases h1 : i < zs.length
    · rw [List.getElem_append_left h1]
      by_cases h2 : j < zs.length
      · rw [List.getElem_append_left h2]
        exact h.ap i j h1 h2 hij b
      · have : j = zs.length := by simp at hj; omega
        subst this
        simp only [List.getElem_concat_length]
        intro e1 e2
        have := hlt i h1 b e1
        have := (hon.lt b e2).1
        omega
    · have : i = zs.length := by simp at hi; omega
      subst this
      simp only [List.getElem_concat_length]
      have h2 : j < zs.length := by simp at hj; omega
      rw [List.getElem_append_left h2]
      intro e1 e2
      have := hlt j h2 b e2
      have := (hon.lt b e1).1
      omega

/-- A value with a row of productions of its own, while it grows. -/
structure QS (W : World) (ob : Nat) (n : Int) (A : Option Addr) (cap : Nat) (zs : List Pv) (w : World) : Prop where
  g : OG w W.heap.size A cap zs
  o : Own w ob 25 [.int .i64 n, .slice A zs.length cap]
  b : Below W.heap.size W w
  ge : W.heap.size ≤ ob
theorem QS.keep {W w w' : World} {ob : Nat} {n : Int} {A : Option Addr} {cap : Nat} {zs : List Pv} (h : QS W ob n A cap zs w) (hb : Below w.heap.size w w') : QS W ob n A cap zs w' :=
  ⟨h.g.keep hb, h.o.keep hb, h.b.trans (hb.mono h.b.size), h.ge⟩
theorem QS.alloc {W w : World} {ob : Nat} {n : Int} {A : Option Addr} {cap : Nat} {zs : List Pv} (h : QS W ob n A cap zs w) (o : Obj) : QS W ob n A cap zs (w.alloc o) := h.keep (below_box _)
theorem QS.drew {W w : World} {ob : Nat} {n : Int} {A : Option Addr} {cap : Nat} {zs : List Pv} (h : QS W ob n A cap zs w) : QS W ob n A cap zs w.drew := h.keep (Below.refl _ _).drew
theorem QS.cell {W w : World} {ob : Nat} {n : Int} {A : Option Addr} {cap : Nat} {zs : List Pv} (h : QS W ob n A cap zs w) : w.cell? ⟨ob, 1, none⟩ = some (.slice A zs.length cap) := by rw [h.o.cell]; rfl
theorem QS.ltB {W w : World} {ob : Nat} {n : Int} {A : Option Addr} {cap : Nat} {zs : List Pv} (h : QS W ob n A cap zs w) : ∀ i (hi : i < zs.length) b, zs[i].sl.ownBlock = some b → b < w.heap.size := fun i hi b e => ((h.g.d i hi).lt b e).2

/-- One more, and the value says so. -/
theorem QS.push {W w w' : World} {ob B : Nat} {n : Int} {A A' : Option Addr} {cap cap' : Nat} {zs : List Pv} {x : Pv} (h : QS W ob n A cap zs w) (hon : w.ownsRow B 49 3 x.sl x.p.body.length (symCells x.p.body)) (hB : W.heap.size ≤ B)
    (hlt : ∀ i (hi : i < zs.length) b, zs[i].sl.ownBlock = some b → b < B) (hg : w.grownBy w' (Value.slice A zs.length cap).ownBlock)
    (ho' : w'.ownsRow W.heap.size 46 2 (.slice A' (zs.length + 1) cap') (zs.length + 1) (pvCells zs ++ pvCells [x])) :
    (∃ v, w'.cell? ⟨ob, 1, none⟩ = some v) ∧ w'.frozen? ⟨ob, 1, none⟩ = false ∧ QS W ob n A' cap' (zs ++ [x]) (w'.setCell ⟨ob, 1, none⟩ (.slice A' (zs.length + 1) cap')) := by
  have o1 : Own w' ob 25 [.int .i64 n, .slice A zs.length cap] := by
    have hne := own_ne_own h.g.o h.o (by decide)
    exact (hg.block ob h.o.lt (fun e => hne ob e.symm rfl)).trans h.o
  have hb' : Below W.heap.size W w' := h.b.grown hg h.b.size (fun k hk => (h.g.o.lt k hk).1)
  refine ⟨⟨_, by rw [o1.cell]; rfl⟩, o1.frozen 1, ⟨(h.g.push hon hB hlt hg ho').far o1 (by decide) (by decide) _, ?_, hb'.setCell h.ge _, h.ge⟩⟩
  have := o1.set_ 1 (.slice A' (zs.length + 1) cap')
  simpa using this

theorem step_own_at {P : Program} (w : World) {ops : Array Oper} {o : Oper} {a : Act} {K : Act → World → Prop} {Q : Exit → Act → World → Prop} {E : Prop} (hgd : o.guard = none) (s x : Operand) (t : TypeId)
    (ho : o.op = .call { callee := .builtin .append, args := #[s, x], argTypes := #[t, t] })
    (base : Nat) (e : TypeId) (i : TypeInfo) (z : Value) (size bytes : Nat) (ht : P.underlying t = some (.slice e)) (hi : P.info? e = some i) (hz : i.zero = some z)
    (hsize : i.size = size) (hby : i.bytes = bytes) (hzs : z.cells.size = size) (hsz : 0 < size)
    (v : Value) (n : Nat) (xs : List Value) (hs : a.eval s = v) (hown : w.ownsRow base e size v n xs)
    (ad : Addr) (m c : Nat) (news : List Value) (hx : a.eval x = .slice (some ad) m c) (hl : news.length = m * size) (hnews : ∀ j u, news[j]? = some u → w.cell? (ad.add j) = some u) (h1 : ∀ u ∈ news, u.oneCell' = true)
    (h63 : n + m ≤ maxLen) (hbytes : (n + m) * bytes ≤ 140737488355328) (hbase : base ≤ w.heap.size)
    (h : ∀ v' w', w'.ownsRow base e size v' (n + m) (xs ++ news) → w.grownBy w' v.ownBlock → (v'.ownBlock = v.ownBlock ∨ v'.ownBlock = some w.heap.size) → K (a.put o.dst v') w') :
    if Region.wanted o (yielded ops a.tmps) = true then Oper.wp P o a w K Q else E := by
  have hw : Region.wanted o (yielded ops a.tmps) = true := by simp [Region.wanted, hgd]
  rw [if_pos hw]
  obtain ⟨v', w', hr, h2, h3, h4, h5⟩ := run_append_own_at (P := P) w base t o.type e i z size bytes ht hi hz hsize hby hzs hsz _ n xs hown ad m c news hl hnews h1 h63 hbytes hbase
  unfold Oper.wp execOp
  simp only [ho, resolve, invoke, builtin, Sem.run_bind, Sem.run_pure, Result.andThen_ok, List.map_toArray, List.map_cons, List.map_nil, hs, hx, hr]
  exact h v' w' h2 h3 h5

end Go.Proofs.Ytkgiklmdpdakbaa

/- Productions that are being made, in memory: what the specification's maker of productions holds. -/
namespace Go.Proofs.Ytkgiklmdpdakbaa
open Go.RowKit
set_option linter.unusedVariables false

theorem row_of {w w' : World} {base : Nat} {e : TypeId} {size : Nat} {v : Value} {n : Nat} {xs : List Value} (h : w.ownsRow base e size v n xs) (hb : ∀ b cur, v.ownBlock = some b → w.heap[b]? = some (.cells cur e (0, 0)) → base ≤ b → w'.heap[b]? = w.heap[b]?) : w'.ownsRow base e size v n xs := by
  rcases h with ⟨hl, h0 | ⟨g, cp, cur, h0, h1, h2, h3⟩⟩
  · exact ⟨hl, .inl h0⟩
  · exact ⟨hl, .inr ⟨g, cp, cur, h0, h1, (hb g cur (by rw [h0]; rfl) h2 h1).trans h2, h3⟩⟩
theorem kind_of {w : World} {base : Nat} {e : TypeId} {size : Nat} {v : Value} {n k : Nat} {xs : List Value} (h : w.ownsRow base e size v n xs) (hk : v.ownBlock = some k) : ∃ cur, w.heap[k]? = some (.cells cur e (0, 0)) := by
  rcases h.2 with ⟨rfl, _⟩ | ⟨g, cap, cur, rfl, _, h1, _⟩
  · cases hk
  · injection hk with hk
    subst hk
    exact ⟨cur, h1⟩
theorem cell_far3 {w : World} {g : Nat} {a b c v : Value} {p : Addr} (hp : p.block ≠ g) (h : w.cell? p = some v) : (((w.setCell ⟨g, 0, none⟩ a).setCell ⟨g, 1, none⟩ b).setCell ⟨g, 2, none⟩ c).cell? p = some v := by
  rw [World.cell?_of_block (Below.heap_setCell _ _ _ p.block hp), World.cell?_of_block (Below.heap_setCell _ _ _ p.block hp), World.cell?_of_block (Below.heap_setCell _ _ _ p.block hp)]
  exact h

/-- The maker in block mb: its rules, how many heads, and a row of productions of its own. -/
structure MK (w0 : World) (mb : Nat) (rv : Value) (s : Mk) (A : Option Addr) (cap : Nat) (xs : List Pv) (w : World) : Prop where
  o : Own w mb 84 [rv, .int .i64 s.heads, .slice A xs.length cap]
  g : OG w w0.heap.size A cap xs
  p : xs.map Pv.p = s.list
  b : Below w0.heap.size w0 w
  ge : w0.heap.size ≤ mb

/-- What making turns: the maker, and rows of productions. -/
structure MF (base mb : Nat) (w w' : World) : Prop where
  os : w'.os = w.os
  tape : w'.tape = w.tape
  output : w'.output = w.output
  size : w.heap.size ≤ w'.heap.size
  block : ∀ k, k < w.heap.size → k ≠ mb → (∀ cur, w.heap[k]? = some (.cells cur 46 (0, 0)) → k < base) → w'.heap[k]? = w.heap[k]?

/-- What is behind a making: productions more, whose bodies are new. -/
structure MkP (w0 : World) (mb : Nat) (rv : Value) (xs : List Pv) (w : World) (s' : Mk) (A' : Option Addr) (cap' : Nat) (zs : List Pv) (w' : World) : Prop where
  k : MK w0 mb rv s' A' cap' (xs ++ zs) w'
  f : MF w0.heap.size mb w w'
  n : ∀ z ∈ zs, ∀ b, z.sl.ownBlock = some b → w.heap.size ≤ b

section
variable {w0 w w' w'' : World} {mb base cap cap' : Nat} {rv : Value} {s s' : Mk} {A A' : Option Addr} {xs zs : List Pv}
theorem MK.keep (h : MK w0 mb rv s A cap xs w) (hb : Below w.heap.size w w') : MK w0 mb rv s A cap xs w' :=
  ⟨h.o.keep hb, h.g.keep hb, h.p, h.b.trans (hb.mono h.b.size), h.ge⟩
theorem MK.len (h : MK w0 mb rv s A cap xs w) : xs.length = s.list.length := by rw [← h.p]; simp
theorem MF.of_below (hb : Below w.heap.size w w') : MF base mb w w' := ⟨hb.os, hb.tape, hb.output, hb.size, fun k hk _ _ => hb.block k hk⟩
theorem MF.refl (w : World) : MF base mb w w := .of_below (Below.refl _ _)
theorem MF.trans (h : MF base mb w w') (h' : MF base mb w' w'') : MF base mb w w'' := by
  refine ⟨h'.os.trans h.os, h'.tape.trans h.tape, h'.output.trans h.output, Nat.le_trans h.size h'.size, fun k hk h1 h2 => ?_⟩
  have e := h.block k hk h1 h2
  exact (h'.block k (Nat.lt_of_lt_of_le hk h.size) h1 (fun cur hc => h2 cur (e ▸ hc))).trans e
/-- A row of symbols that lies elsewhere stays. -/
theorem MF.row {ys : List Value} (h : MF base mb w w') (ho : Own w mb 84 ys) {base' n : Nat} {v : Value} {cs : List Value} (hr : w.ownsRow base' 49 3 v n cs) : w'.ownsRow base' 49 3 v n cs := by
  refine row_of hr fun b cur _ hc _ => h.block b (Array.getElem?_eq_some_iff.1 hc).1 (fun e => ?_) (fun cur' hc' => ?_)
  · have h2 : w.heap[mb]? = some (.cells _ 84 (0, 0)) := ho
    rw [e, h2] at hc
    injection hc with hc
    injection hc with _ hc
    exact absurd hc (by decide)
  · rw [hc] at hc'
    injection hc' with hc'
    injection hc' with _ hc'
    exact absurd hc' (by decide)
/-- A block of another kind stays. -/
theorem MF.own {ys : List Value} (h : MF base mb w w') (ho : Own w mb 84 ys) {k : Nat} {t : TypeId} {cs : List Value} (hr : Own w k t cs) (h1 : t ≠ 84) (h2 : t ≠ 46) : Own w' k t cs := by
  have hk : w.heap[k]? = some (.cells _ t (0, 0)) := hr
  refine (h.block k hr.lt (fun e => ?_) (fun cur' hc' => ?_)).trans hr
  · have hm : w.heap[mb]? = some (.cells _ 84 (0, 0)) := ho
    rw [e, hm] at hk
    injection hk with hk
    injection hk with _ hk
    exact absurd hk.symm h1
  · rw [hk] at hc'
    injection hc' with hc'
    injection hc' with _ hc'
    exact absurd hc' h2
/-- A block that is older than the productions' rows stays, and so does every other but the maker. -/
theorem MF.below (h : MF w0.heap.size mb w w') (hb : Below w0.heap.size w0 w) (hm : w0.heap.size ≤ mb) : Below w0.heap.size w0 w' :=
  ⟨h.os.trans hb.os, h.tape.trans hb.tape, h.output.trans hb.output, Nat.le_trans hb.size h.size, fun k hk => (h.block k (Nat.lt_of_lt_of_le hk hb.size) (by omega) (fun _ _ => hk)).trans (hb.block k hk)⟩
theorem MkP.refl (h : MK w0 mb rv s A cap xs w) : MkP w0 mb rv xs w s A cap [] w := ⟨by rw [List.append_nil]; exact h, .refl w, fun z hz => by simp at hz⟩
theorem MkP.below (h : MK w0 mb rv s A cap xs w) (hb : Below w.heap.size w w') : MkP w0 mb rv xs w s A cap [] w' := ⟨by rw [List.append_nil]; exact h.keep hb, .of_below hb, fun z hz => by simp at hz⟩
theorem MkP.trans {w1 : World} {A1 : Option Addr} {c1 : Nat} {s1 : Mk} {z1 z2 : List Pv} (h : MkP w0 mb rv xs w s1 A1 c1 z1 w1) (h' : MkP w0 mb rv (xs ++ z1) w1 s' A' cap' z2 w') : MkP w0 mb rv xs w s' A' cap' (z1 ++ z2) w' := by
  refine ⟨by rw [← List.append_assoc]; exact h'.k, h.f.trans h'.f, fun z hz b hb => ?_⟩
  rcases List.mem_append.1 hz with hz | hz
  · exact h.n z hz b hb
  · have := h'.n z hz b hb
    have := h.f.size
    omega
/-- The call's own preparations ahead of a making. -/
theorem MkP.after {w1 : World} {z1 : List Pv} (hb : Below w.heap.size w w1) (h : MkP w0 mb rv xs w1 s' A' cap' z1 w') : MkP w0 mb rv xs w s' A' cap' z1 w' :=
  ⟨h.k, (MF.of_below hb).trans h.f, fun z hz b hz' => by have := h.n z hz b hz'; have := hb.size; omega⟩
theorem MkP.then_ {z1 : List Pv} (h : MkP w0 mb rv xs w s' A' cap' z1 w') (hb : Below w'.heap.size w' w'') : MkP w0 mb rv xs w s' A' cap' z1 w'' :=
  ⟨h.k.keep hb, h.f.trans (.of_below hb), h.n⟩
end

/-- One more production is put behind the others; its body is nobody else's. -/
theorem OG.push' {w w' : World} {base cap cap' : Nat} {A A' : Option Addr} {zs : List Pv} {x : Pv} (h : OG w base A cap zs) (hon : w.ownsRow base 49 3 x.sl x.p.body.length (symCells x.p.body))
    (hap : ∀ i (hi : i < zs.length) b, zs[i].sl.ownBlock = some b → x.sl.ownBlock ≠ some b) (hg : w.grownBy w' (Value.slice A zs.length cap).ownBlock)
    (ho' : w'.ownsRow base 46 2 (.slice A' (zs.length + 1) cap') (zs.length + 1) (pvCells zs ++ pvCells [x])) : OG w' base A' cap' (zs ++ [x]) := by
  refine ⟨?_, fun i hi => ?_, fun i j hi hj hij b => ?_⟩
  · rw [pvCells_append]
    simpa using ho'
  · by_cases h1 : i < zs.length
    · rw [List.getElem_append_left h1]
      exact grown_own hg h.o (h.d i h1) (by decide)
    · have : i = zs.length := by simp at hi; omega
      subst this
      simp only [List.getElem_concat_length]
      exact grown_own hg h.o hon (by decide)
  · by_cases h1 : i < zs.length
    · rw [List.getElem_append_left h1]
      by_cases h2 : j < zs.length
      · rw [List.getElem_append_left h2]
        exact h.ap i j h1 h2 hij b
      · have : j = zs.length := by simp at hj; omega
        subst this
        simp only [List.getElem_concat_length]
        exact hap i h1 b
    · have : i = zs.length := by simp at hi; omega
      subst this
      simp only [List.getElem_concat_length]
      have h2 : j < zs.length := by simp at hj; omega
      rw [List.getElem_append_left h2]
      exact fun e1 e2 => hap j h2 b e2 e1

/-- A production was put behind the others, and the maker says so. -/
theorem MK.push {w0 w w' : World} {mb cap cap' h : Nat} {rv : Value} {s : Mk} {A A' : Option Addr} {xs : List Pv} {x : Pv} (hk : MK w0 mb rv s A cap xs w) (hx : x.p.head = (h : Int)) (hon : w.ownsRow w0.heap.size 49 3 x.sl x.p.body.length (symCells x.p.body))
    (hap : ∀ i (hi : i < xs.length) b, xs[i].sl.ownBlock = some b → x.sl.ownBlock ≠ some b) (hg : w.grownBy w' (Value.slice A xs.length cap).ownBlock)
    (ho' : w'.ownsRow w0.heap.size 46 2 (.slice A' (xs.length + 1) cap') (xs.length + 1) (pvCells xs ++ pvCells [x])) :
    Own w' mb 84 [rv, .int .i64 s.heads, .slice A xs.length cap] ∧ MK w0 mb rv (s.put h x.p.body) A' cap' (xs ++ [x]) (w'.setCell ⟨mb, 2, none⟩ (.slice A' (xs.length + 1) cap')) ∧ MF w0.heap.size mb w (w'.setCell ⟨mb, 2, none⟩ (.slice A' (xs.length + 1) cap')) := by
  have o1 : Own w' mb 84 [rv, .int .i64 s.heads, .slice A xs.length cap] := by
    have hne := own_ne_own hk.g.o hk.o (by decide)
    exact (hg.block mb hk.o.lt (fun e => hne mb e.symm rfl)).trans hk.o
  have hb' : Below w0.heap.size w0 w' := hk.b.grown hg hk.b.size (fun k hk' => (hk.g.o.lt k hk').1)
  refine ⟨o1, ⟨?_, (OG.push' hk.g hon hap hg ho').far o1 (by decide) (by decide) _, ?_, hb'.setCell hk.ge _, hk.ge⟩, ?_⟩
  · have := o1.set_ 2 (.slice A' (xs.length + 1) cap')
    simpa [Mk.put] using this
  · rw [List.map_append, hk.p]
    cases x with | mk p K kc =>
    cases p with | mk ph pb =>
    simp only at hx
    subst hx
    rfl
  · refine ⟨hg.os, hg.tape, hg.output, by simp; exact hg.size, fun k hk' h1 h2 => ?_⟩
    refine (Below.heap_setCell w' _ _ k h1).trans (hg.block k hk' (fun e => ?_))
    obtain ⟨cur, hc⟩ := kind_of hk.g.o e.symm
    have := h2 cur hc
    have := (hk.g.o.lt k e.symm).1
    omega

end Go.Proofs.Ytkgiklmdpdakbaa

/- The specification's maker of productions: a new head, and one production more. -/
namespace Go.Proofs.Ytkgiklmdpdakbaa
open Go.RowKit
set_option linter.unusedVariables false

set_option maxRecDepth 100000 in
set_option maxHeartbeats 1000000 in
theorem fresh_any (w0 : World) (mb : Nat) (rv : Value) (s : Mk) (A : Option Addr) (cap : Nat) (xs : List Pv) (w : World) (hk : MK w0 mb rv s A cap xs w) (hs : s.heads ≤ 1000000) :
    Calls Try.prog 83 #[.pointer (some ⟨mb, 0, none⟩)] w fun e w' => e = .returned (.int .i64 s.heads) ∧ MkP w0 mb rv xs w s.fresh A cap [] w' := by
  have c1 : w.cell? ⟨mb, 1, none⟩ = some (.int .i64 s.heads) := by rw [hk.o.cell]; rfl
  have f1 := hk.o.frozen 1
  have hlt := hk.o.lt
  have HP : Hid (MkP w0 mb rv xs w s.fresh A cap [] (w.setCell ⟨mb, 1, none⟩ (.int .i64 ((s.heads : Int) + 1)))) := by
    refine ⟨?_, ?_, fun z hz => by simp at hz⟩
    · rw [List.append_nil]
      refine ⟨?_, hk.g.far hk.o (by decide) (by decide) _, hk.p, hk.b.setCell hk.ge _, hk.ge⟩
      have := hk.o.set_ 1 (.int .i64 ((s.heads : Int) + 1))
      simpa [Mk.fresh] using this
    · exact ⟨rfl, rfl, rfl, by simp, fun k _ h1 _ => Below.heap_setCell w _ _ k h1⟩
  clear hk
  go_enter Try.func83, Try.ntmps83
  go_wp2
  go_ret
  exact ⟨by first | rfl | (congr; omega), HP.out⟩

/-- Behind a production that was put: these productions are there. -/
def PutPost (w0 : World) (mb : Nat) (rv : Value) (s' : Mk) (ys : List Pv) (w : World) (e : Ending) (w' : World) : Prop := e = .returned (.tuple #[]) ∧ ∃ A' cap', MK w0 mb rv s' A' cap' ys w' ∧ MF w0.heap.size mb w w'

set_option maxRecDepth 100000 in
set_option maxHeartbeats 1000000 in
theorem put_any (h : Nat) (b : List Sy) (K : Option Addr) (kc : Nat) (w0 : World) (mb : Nat) (rv : Value) (s : Mk) (A : Option Addr) (cap : Nat) (xs : List Pv) (w : World) (hk : MK w0 mb rv s A cap xs w) (hs : s.list.length ≤ 1000000)
    (hb : w.ownsRow w0.heap.size 49 3 (.slice K b.length kc) b.length (symCells b)) (hap : ∀ i (hi : i < xs.length) q, xs[i].sl.ownBlock = some q → (Value.slice K b.length kc).ownBlock ≠ some q) :
    Calls Try.prog 69 #[.pointer (some ⟨mb, 0, none⟩), .int .i64 (h : Int), .slice K b.length kc] w (PutPost w0 mb rv (s.put h b) (xs ++ [⟨⟨(h : Int), b⟩, K, kc⟩]) w) := by
  obtain ⟨i1, hi0, hz0, hz1, hz2⟩ := info_parts info43
  have HI1 := Lib.hid (And.intro hi0 (And.intro hz0 (And.intro hz1 hz2)))
  clear hi0 hz0 hz1 hz2
  have c2 : w.cell? ⟨mb, 2, none⟩ = some (.slice A xs.length cap) := by rw [hk.o.cell]; rfl
  have hl : xs.length ≤ 1000000 := by rw [hk.len]; exact hs
  have hlt := hk.o.lt
  have HK := Lib.hid hk
  have HB := Lib.hid hb
  have HAP := Lib.hid hap
  have hbs := hk.b.size
  have HO := Lib.hid (own_keep HK.out.g.o (below_box (.cells #[.int .i64 (h : Int), .slice K b.length kc] 46)))
  clear hk hb hap
  go_enter Try.func69, Try.ntmps69
  go_wp2_with (at_builtin; refine wpList_append_own_at _ rfl _ _ 23 rfl w0.heap.size 46 i1 (.agg #[.int .i64 0, .slice none 0 0]) 2 32 Try.underlying23 HI1.out.1 HI1.out.2.1 HI1.out.2.2.1 HI1.out.2.2.2 rfl (by decide) _ _ (pvCells xs) rfl HO.out ⟨w.heap.size, 0, none⟩ 1 1 [.int .i64 (h : Int), .slice K b.length kc] rfl rfl ?c1 ?c2 ?c3 ?c4 ?c5 ?_)
  case c1 => exact (Own.new w 46 #[.int .i64 (h : Int), .slice K b.length kc]).row.news
  case c2 => intro u hu; simp at hu; rcases hu with rfl | rfl <;> rfl
  case c3 => unfold maxLen; omega
  case c4 => omega
  case c5 => simp; omega
  intro v' w4 hown' hgrow _ hblk
  obtain ⟨A', cap', rfl⟩ := own_form hown'
  have HKA := Lib.hid (HK.out.keep (below_box (.cells #[.int .i64 (h : Int), .slice K b.length kc] 46)))
  obtain ⟨o1, HP, HF⟩ := MK.push (h := h) (x := ⟨⟨(h : Int), b⟩, K, kc⟩) HKA.out rfl (own_keep HB.out (below_box _)) HAP.out hgrow (by simpa [pvCells, Pv.sl] using hown')
  have c2' : w4.cell? ⟨mb, 2, none⟩ = some (.slice A xs.length cap) := by rw [o1.cell]; rfl
  have f2 := o1.frozen 2
  have lt4 := o1.lt
  have HP' := Lib.hid HP
  have HF' := Lib.hid HF
  clear HP HF o1 hown' hgrow c2
  go_wp2
  refine bodyPost_end (results_none rfl _ _ _) rfl ?_
  exact ⟨rfl, A', cap', HP'.out, (MF.of_below (below_box _)).trans HF'.out⟩

end Go.Proofs.Ytkgiklmdpdakbaa

/- The specification's maker of productions: a part as one symbol (a name, a class of one range). -/
namespace Go.Proofs.Ytkgiklmdpdakbaa
open Go.RowKit
set_option linter.unusedVariables false

/-- A symbol is answered, and more may have been made. -/
def OnePost (w0 : World) (mb : Nat) (rv : Value) (xs : List Pv) (r : Sy × Mk) (w : World) (e : Ending) (w' : World) : Prop :=
  e = .returned (.agg #[.int .i64 r.1.head, .int .i64 r.1.low, .int .i64 r.1.high]) ∧ ∃ A' cap' zs, MkP w0 mb rv xs w r.2 A' cap' zs w'
/-- A row of symbols is answered that is the caller's own, and more may have been made. -/
def BodyPost (w0 : World) (mb : Nat) (rv : Value) (xs : List Pv) (r : List Sy × Mk) (w : World) (e : Ending) (w' : World) : Prop :=
  ∃ K kc, e = .returned (.slice K r.1.length kc) ∧ w'.ownsRow w.heap.size 49 3 (.slice K r.1.length kc) r.1.length (symCells r.1) ∧ ∃ A' cap' zs, MkP w0 mb rv xs w r.2 A' cap' zs w' ∧ ∀ z ∈ zs, ∀ b, z.sl.ownBlock = some b → (Value.slice K r.1.length kc).ownBlock ≠ some b
/-- Nothing is answered, and more was made. -/
def HeadPost (w0 : World) (mb : Nat) (rv : Value) (xs : List Pv) (s' : Mk) (w : World) (e : Ending) (w' : World) : Prop :=
  e = .returned (.tuple #[]) ∧ ∃ A' cap' zs, MkP w0 mb rv xs w s' A' cap' zs w'

/-- There is room for what a part makes. -/
structure Room (s : Mk) (n : Nat) : Prop where
  h : s.heads + 2 * n ≤ 500000
  l : s.list.length + 300 * n ≤ 500000
  n : n ≤ 160

/-- There is room for what a head of a part makes. -/
structure HRoom (s : Mk) (n : Nat) : Prop where
  h : s.heads + 2 * n ≤ 500002
  l : s.list.length + 300 * n ≤ 500000
  n : n ≤ 160
theorem Room.head {s : Mk} {n : Nat} (h : Room s n) : HRoom s n := ⟨by have := h.h; omega, h.l, h.n⟩
theorem Room.freshHead {s : Mk} {n : Nat} (h : Room s n) : HRoom s.fresh n := ⟨by have := h.h; show s.heads + 1 + 2 * n ≤ 500002; omega, h.l, h.n⟩

/-- A part that is handed on, with what it has in memory, as the maker is asked of it. -/
structure Ask (w0 : World) (rs : List Ru) (n : Nat) (k : Int) (t : ByteArray) (lo hi : List Int) (kids : List Pt) (mn mx : Int) (A B K : Option Addr) : Prop where
  ok : OkP rs (.mk k t lo hi kids mn mx)
  ht : htL kids + 1 ≤ n
  v : PtV w0 0 lo hi kids A B K
  lim : Lim 1048576 (.mk k t lo hi kids mn mx)

set_option maxRecDepth 100000 in
set_option maxHeartbeats 1000000 in
theorem oneName_any (w0 : World) (rs : List Ru) (a : Option Addr) (c : Nat) (hr : Rus w0 0 a rs) (hrl : rs.length ≤ 1048576) (t : ByteArray) (lo hi : List Int) (kids : List Pt) (mn mx : Int) (A B K : Option Addr) (ca cb kc mb : Nat) (s : Mk) (Al : Option Addr) (cap : Nat) (xs : List Pv) (w : World) (hk : MK w0 mb (.slice a rs.length c) s Al cap xs w) :
    Calls Try.prog 82 #[.pointer (some ⟨mb, 0, none⟩), .agg #[.int .i64 3, .string t, .slice A lo.length ca, .slice B hi.length cb, .slice K kids.length kc, .int .i64 mn, .int .i64 mx]] w (OnePost w0 mb (.slice a rs.length c) xs (headSy (ixOf rs t), s) w) := by
  have HB0 := Lib.hid ((below_box (w := w) (.cells #[.int .i64 3, .string t, .slice A lo.length ca, .slice B hi.length cb, .slice K kids.length kc, .int .i64 mn, .int .i64 mx] 88)).alloc (by simp) (.cells #[.int .i64 0, .int .i64 0, .int .i64 0] 49))
  have x1 : ((w.alloc (.cells #[.int .i64 3, .string t, .slice A lo.length ca, .slice B hi.length cb, .slice K kids.length kc, .int .i64 mn, .int .i64 mx] 88)).alloc (.cells #[.int .i64 0, .int .i64 0, .int .i64 0] 49)).cell? ⟨w.heap.size, 1, none⟩ = some (.string t) := by simp
  have c0 : ((w.alloc (.cells #[.int .i64 3, .string t, .slice A lo.length ca, .slice B hi.length cb, .slice K kids.length kc, .int .i64 mn, .int .i64 mx] 88)).alloc (.cells #[.int .i64 0, .int .i64 0, .int .i64 0] 49)).cell? ⟨mb, 0, none⟩ = some (.slice a rs.length c) := by rw [(hk.o.keep HB0.out).cell]; rfl
  have HR := Lib.hid ((hr.keep (hk.b)).keep HB0.out)
  have HM := Lib.hid hk
  have hlt := hk.o.lt
  have OR : Hid (Own ((w.alloc (.cells #[.int .i64 3, .string t, .slice A lo.length ca, .slice B hi.length cb, .slice K kids.length kc, .int .i64 mn, .int .i64 mx] 88)).alloc (.cells #[.int .i64 0, .int .i64 0, .int .i64 0] 49)) (w.heap.size + 1) 49 [.int .i64 0, .int .i64 0, .int .i64 0]) := by
    have h := Own.new (w.alloc (.cells #[.int .i64 3, .string t, .slice A lo.length ca, .slice B hi.length cb, .slice K kids.length kc, .int .i64 mn, .int .i64 mx] 88)) 49 #[.int .i64 0, .int .i64 0, .int .i64 0]
    rw [World.size_alloc] at h
    exact h
  clear hr hk
  go_enter Try.func82, Try.ntmps82
  go_wp2
  generalize (w.alloc (.cells #[.int .i64 3, .string t, .slice A lo.length ca, .slice B hi.length cb, .slice K kids.length kc, .int .i64 mn, .int .i64 mx] 88)).alloc (.cells #[.int .i64 0, .int .i64 0, .int .i64 0] 49) = W at *
  have HC := Lib.hid (fun X (hb : Below W.heap.size W X) => l2Rule_lit rs t (ixOf rs t) (ixOf_is rs t) a c 0 X (HR.out.keep hb) hrl)
  go_region_held3 (fun X => X.cell? ⟨mb, 0, none⟩ = some (.slice a rs.length c) ∧ X.cell? ⟨w.heap.size, 1, none⟩ = some (.string t))
    (first | exact ⟨cell_far3 (by simp; omega) (cell_keep hb2 c0), cell_far3 (by simp) (cell_keep hb2 x1)⟩ | exact ⟨cell_keep hb2 c0, cell_keep hb2 x1⟩ | exact ⟨c0, x1⟩)
    (first | (go_at_call 65; refine (HC.out _ (Below.refl _ _).drew).mono ?_; rintro e w2 ⟨rfl, hb2⟩; have o := (OR.out.keep (Below.refl _ _).drew).keep hb2; have r0 : w2.cell? ⟨w.heap.size + 1, 0, none⟩ = some (.int .i64 0) := (o.cell _).trans rfl; have r1 : w2.cell? ⟨w.heap.size + 1, 1, none⟩ = some (.int .i64 0) := (o.cell _).trans rfl; have r2 : w2.cell? ⟨w.heap.size + 1, 2, none⟩ = some (.int .i64 0) := (o.cell _).trans rfl; have f0 := o.frozen 0; have f1 := o.frozen 1; have f2 := o.frozen 2; have OQ := Lib.hid o; clear o))
  have HB2 : Hid (Below w.heap.size w w2) := HB0.out.drew.trans (hb2.mono HB0.out.drew.size)
  have lt2 : w.heap.size + 1 < w2.heap.size := cell_lt r0
  have OF := ((OQ.out.set_ 0 (.int .i64 (ixOf rs t))).set_ 1 (.int .i64 0)).set_ 2 (.int .i64 0)
  have z0 := (OF.cell 0).trans rfl
  have z1 := (OF.cell 1).trans rfl
  have z2 := (OF.cell 2).trans rfl
  simp only [List.set_cons_zero, List.set_cons_succ, List.getElem?_cons_zero, List.getElem?_cons_succ] at z0 z1 z2
  clear c0 x1 hb2 OF
  go_wp2
  refine bodyPost_ret (v := .agg #[.int .i64 (ixOf rs t), .int .i64 0, .int .i64 0]) (by simp [results, Try.results82, go_sem, z0, z1, z2]) rfl ⟨rfl, Al, cap, [], .below HM.out ?_⟩
  exact ((HB2.out.setCell (by simp) _).setCell (by simp) _).setCell (by simp) _

end Go.Proofs.Ytkgiklmdpdakbaa

