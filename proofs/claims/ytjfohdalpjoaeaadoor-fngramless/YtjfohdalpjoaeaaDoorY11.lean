/- A rule that nobody names can be left out, plainly. -/
import Derived.Test.YtjfohdalpjoaeaaDoorY10
namespace Go.Proofs.YtjfohdalpjoaeaaDoor
open Go.RowKit
set_option linter.unusedVariables false

theorem FlatOk {rs ls : List Ru} {k : Int} {t : ByteArray} {lo hi : List Int} {kids : List Pt} {mn mx : Int} (h : AloneP rs k t lo hi kids mn mx) (ht : k = 3 → ∃ x ∈ ls, x.name = t) : AloneP ls k t lo hi kids mn mx := by
  refine ⟨h.1, ?_⟩
  rcases h.2 with q | q | q | q | q | q
  · exact .inl q
  · exact .inr (.inl q)
  · exact .inr (.inr (.inl ⟨q.1, ht q.1, q.2.2⟩))
  · exact .inr (.inr (.inr (.inl q)))
  · exact .inr (.inr (.inr (.inr (.inl q))))
  · exact .inr (.inr (.inr (.inr (.inr q))))
theorem alone_name {rs : List Ru} {t : ByteArray} {lo hi : List Int} {kids : List Pt} {mn mx : Int} (h : AloneP rs 3 t lo hi kids mn mx) : ∃ x ∈ rs, x.name = t := by
  rcases h.2 with q | q | q | q | q | q
  · exact absurd q.1 (by decide)
  · exact absurd q.1 (by decide)
  · exact q.2.1
  · exact absurd q.1 (by decide)
  · exact absurd q.1 (by decide)
  · exact absurd q.1 (by decide)

/-- Without a name that a part does not use it is as much in form. -/
theorem ok_less {rs ls : List Ru} {L : ByteArray} (hm : ∀ x ∈ rs, x.name ≠ L → x ∈ ls) {p : Pt} (h : OkP rs p) : ¬ NamesIn L p → OkP ls p := by
  induction h with
  | mk k t lo hi kids mn mx ha hk ih =>
    intro hn
    refine .mk k t lo hi kids mn mx (FlatOk ha fun e => ?_) fun p hp => ih p hp fun h => hn (.kid k t lo hi kids mn mx p hp h)
    subst e
    obtain ⟨x, hx, e⟩ := alone_name ha
    refine ⟨x, hm x hx fun e2 => hn ?_, e⟩
    rw [e] at e2
    subst e2
    exact .here lo hi kids mn mx
theorem ok_names {ls : List Ru} {L : ByteArray} {p : Pt} (h : OkP ls p) : NamesIn L p → ∃ x ∈ ls, x.name = L := by
  induction h with
  | mk k t lo hi kids mn mx ha hk ih =>
    intro hn
    rcases hn.inv with ⟨rfl, rfl⟩ | ⟨p, hp, h⟩
    · exact alone_name ha
    · exact ih p hp h
theorem nodesL_take_le (ps : List Pt) : ∀ n, nodesL (ps.take n) ≤ nodesL ps := by
  induction ps with
  | nil => intro n; simp
  | cons p r ih =>
    intro n
    cases n with
    | zero => simp [nodesL]
    | succ n => simp only [List.take_succ_cons, nodesL]; have := ih n; omega

theorem gram_less {rs : List Ru} (h : GramP rs) (h2 : 2 ≤ rs.length) : GramP (rs.take (rs.length - 1)) ↔ ∀ i (hi : i < rs.length), i + 1 < rs.length → ¬ NamesIn (rs[rs.length - 1]'(by omega)).name rs[i].p := by
  obtain ⟨g1, g2, g3, g4⟩ := h
  have hlast := g3 (rs.length - 1) (by omega)
  have hll : (rs.take (rs.length - 1)).length = rs.length - 1 := by simp
  have huniq : ∀ j (hj : j < rs.length), j + 1 < rs.length → rs[j].name ≠ (rs[rs.length - 1]'(by omega)).name := by
    intro j hj hj2
    rcases hlast.2.1 with ⟨e, _⟩ | ⟨q, e, hq, _, h3⟩
    · omega
    · exact h3 j hj (by omega)
  have hmem : ∀ x ∈ rs, x.name ≠ (rs[rs.length - 1]'(by omega)).name → x ∈ rs.take (rs.length - 1) := by
    intro x hx hne
    obtain ⟨j, hj, rfl⟩ := List.getElem_of_mem hx
    have hj2 : j < rs.length - 1 := by
      have : j ≠ rs.length - 1 := fun e => by subst e; exact hne rfl
      omega
    have := List.getElem_mem (l := rs.take (rs.length - 1)) (n := j) (by rw [hll]; exact hj2)
    rwa [List.getElem_take] at this
  constructor
  · rintro ⟨q1, q2, q3, q4⟩ i hi hi1 hn
    have hr := q3 i (by rw [hll]; omega)
    rw [List.getElem_take] at hr
    obtain ⟨x, hx, e⟩ := ok_names hr.2.2.2 hn
    obtain ⟨j, hj, rfl⟩ := List.getElem_of_mem hx
    rw [hll] at hj
    rw [List.getElem_take] at e
    exact huniq j (by omega) (by omega) e
  · intro hn
    refine ⟨by rw [hll]; omega, by rw [hll]; omega, fun i hi => ?_, ?_⟩
    · rw [hll] at hi
      have hr := g3 i (by omega)
      rw [List.getElem_take]
      refine ⟨hr.1, ?_, hr.2.2.1, ok_less hmem hr.2.2.2 (hn i (by omega) (by omega))⟩
      rcases hr.2.1 with ⟨e, _⟩ | ⟨q, e, hq, h3, h4⟩
      · omega
      · have hqi : q = i := by omega
        subst hqi
        refine .inr ⟨q, rfl, by rw [hll]; exact hi, by rw [List.getElem_take], fun j hj hjq => ?_⟩
        rw [List.getElem_take]
        exact h4 j (by omega) hjq
    · have := nodesL_take_le (parts rs) (rs.length - 1)
      unfold parts at this g4 ⊢
      rw [List.map_take]
      omega

end Go.Proofs.YtjfohdalpjoaeaaDoor
