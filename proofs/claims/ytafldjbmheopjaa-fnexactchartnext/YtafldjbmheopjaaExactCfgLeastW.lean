/- What least lengths of productions are bounded by. -/
import Derived.Test.YtafldjbmheopjaaK13
namespace Go.Proofs.Ytafldjbmheopjaa
open Go.RowKit
set_option linter.unusedVariables false

theorem IsLeast.len {hd : Int} {ps : List Pd} {L : List Int} (h : IsLeast hd ps L) : L.length ≤ 200 := by
  unfold IsLeast at h
  split at h
  · rename_i h1
    have h2 : hd ≤ 200 := by unfold cfgOkB at h1; simp at h1; omega
    have := h.1.length
    omega
  · rw [h]; simp

theorem PF.range {w : World} {g : Nat} {bs : List Nat} {ps : List Pd} (h : OP w g bs ps) {k : Nat} (hk : PF g bs k) : g ≤ k ∧ k < w.heap.size := by
  rcases hk with rfl | hk
  · exact ⟨Nat.le_refl _, h.o.lt⟩
  · refine ⟨Nat.le_of_lt (h.lt k hk), ?_⟩
    obtain ⟨i, hi, rfl⟩ := List.getElem_of_mem hk
    exact (h.d i (by rw [← h.l]; exact hi) hi).lt

end Go.Proofs.Ytafldjbmheopjaa
