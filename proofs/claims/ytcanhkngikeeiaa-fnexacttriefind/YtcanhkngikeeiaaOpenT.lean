/- How a slice of nodes that came in is opened. -/
import Derived.Test.YtcanhkngikeeiaaN1
import Derived.Test.YtcanhkngikeeiaaOpen
import Derived.Deep.SlicePairs
namespace Go.Proofs.Ytcanhkngikeeiaa
open Go.ChangeShapes Go.WideShapes Go.ChangeAt Go.RowKit Go.Joins Go.Deep
set_option linter.unusedVariables false

section
variable {H : Type} {enc : TypeId × Value → H} {w : World} {base : Nat} {held : Bool}

theorem cells97 : Try.prog.cellsOf 97 = 3 := by kernel_rfl
theorem cells26 : Try.prog.cellsOf 26 = 1 := by kernel_rfl

/-- A slice of ints that lies in a cell. -/
theorem ints_in {fuel : Nat} {v : Value} {x : DataW H × List MemPlace} (h : DataW.trod enc Try.prog w base (fun _ => true) held fuel 26 [v] = some x) :
    ∃ (A : Option Addr) (cap : Nat) (zs : List Int), v = .slice A zs.length cap ∧ Row w A (ints zs) ∧ zs.length ≤ maxLen := by
  have h' := h
  have shape : ∃ A len cap, v = .slice A len cap := by
    rcases open_ints Try.underlying26 Try.underlying3 cells3 h with ⟨hcs, _⟩ | ⟨y, l, c, zs, hcs, _⟩
    · injection hcs with hv _; exact ⟨_, _, _, hv⟩
    · injection hcs with hv _; exact ⟨_, _, _, hv⟩
  obtain ⟨A, len, cap, rfl⟩ := shape
  obtain ⟨zs, rfl, hr, hm, _⟩ := nums_in Try.underlying26 Try.underlying3 cells3 h'
  exact ⟨A, cap, zs, rfl, hr, hm⟩

set_option maxRecDepth 100000 in
theorem nodes_in {fuel : Nat} {a : Option Addr} {len cap : Nat} {x : DataW H × List MemPlace} (h : DataW.trod enc Try.prog w base (fun _ => true) held fuel 60 [.slice a len cap] = some x) :
    ∃ ns : List Node, ns.length = len ∧ Nodes w a ns ∧ len ≤ maxLen ∧ ∀ n ∈ ns, n.kids.length ≤ maxLen ∧ n.ids.length ≤ maxLen := by
  rcases open_slice Try.underlying60 h with ⟨hcs, _⟩ | ⟨y, l, c, m, n, D, Pl, hcs, _, hl, hm, hmm, _, hx⟩
  · simp at hcs
    obtain ⟨rfl, rfl, rfl⟩ := hcs
    exact ⟨[], rfl, .inl rfl, Nat.zero_le _, by simp⟩
  · simp at hcs
    obtain ⟨rfl, rfl, rfl⟩ := hcs
    simp only [if_true] at hmm
    subst hmm
    by_cases h0 : len = 0
    · subst h0
      exact ⟨[], rfl, .inl rfl, Nat.zero_le _, by simp⟩
    · obtain ⟨b, off, spot⟩ := y
      have each : ∀ i, i < m → ∃ nd : Node, (∃ K kc J jc, w.cell? ((⟨b, off, spot⟩ : Addr).add (i * 3)) = some (.int .i64 nd.byte) ∧ w.cell? ((⟨b, off, spot⟩ : Addr).add (i * 3 + 1)) = some (.slice K nd.kids.length kc) ∧ w.cell? ((⟨b, off, spot⟩ : Addr).add (i * 3 + 2)) = some (.slice J nd.ids.length jc) ∧
          Row w K (ints nd.kids) ∧ Row w J (ints nd.ids)) ∧ nd.kids.length ≤ maxLen ∧ nd.ids.length ≤ maxLen := by
        intro i hi
        obtain ⟨cs', h1, h2⟩ := hx i hi
        rw [cells97] at h1
        obtain ⟨_, hlen, hcell⟩ := World.cells?_some h1
        obtain ⟨xs, k, hk, hxy, _, hxl, hf⟩ := DataW.trod_struct Try.underlying97 h2
        match xs, hxl, cs', hlen with
        | [y0, y1, y2], _, [v0, v1, v2], _ =>
          have g0 := hf 0 _ rfl
          have g1 := hf 1 _ rfl
          have g2 := hf 2 _ rfl
          simp [cells3, cells26] at g0 g1 g2
          have e0 := hcell 0 (by omega)
          have e1 := hcell 1 (by omega)
          have e2 := hcell 2 (by omega)
          rw [add_add] at e0 e1 e2
          obtain ⟨z, q0, _⟩ := DataW.trod_int Try.underlying3 g0
          obtain ⟨K, kc, ks, rfl, hK, hKm⟩ := ints_in g1
          obtain ⟨J, jc, js, rfl, hJ, hJm⟩ := ints_in g2
          simp at q0
          subst q0
          exact ⟨⟨z, ks, js⟩, ⟨K, kc, J, jc, by simpa using e0, by simpa using e1, by simpa using e2, hK, hJ⟩, hKm, hJm⟩
      obtain ⟨f, hf⟩ := choose_lt each
      have hspot : spot = none := by
        obtain ⟨⟨K, kc, J, jc, hc, _⟩, _⟩ := hf 0 (by omega)
        simpa [Addr.add] using World.cell?_spot hc
      subst hspot
      have e1 : ∀ i, (Addr.add ⟨b, off, none⟩ i) = ⟨b, off + i, none⟩ := fun i => by unfold Addr.add; split <;> simp_all
      refine ⟨(List.range len).map f, by simp, .inr ⟨b, off, rfl, fun i hi => ?_⟩, by omega, fun nd hnd => ?_⟩
      · simp at hi
        obtain ⟨⟨K, kc, J, jc, q0, q1, q2, q3, q4⟩, _⟩ := hf i (by omega)
        rw [e1] at q0 q1 q2
        simp only [List.getElem_map, List.getElem_range]
        exact ⟨K, kc, J, jc, q0, by rw [← Nat.add_assoc] at q1; exact q1, by rw [← Nat.add_assoc] at q2; exact q2, q3, q4⟩
      · obtain ⟨i, hi, rfl⟩ := List.mem_map.1 hnd
        have := List.mem_range.1 hi
        exact (hf i (by omega)).2
end
end Go.Proofs.Ytcanhkngikeeiaa
