/- How the second argument of the laws is opened: a chart by value. -/
import Derived.Test.YtafldjbmheopjaaOpen
import Derived.Test.YtafldjbmheopjaaE1
namespace Go.Proofs.Ytafldjbmheopjaa
open Go.ChangeShapes Go.WideShapes Go.ChangeAt Go.RowKit Go.Joins Go.Deep
set_option linter.unusedVariables false

theorem cells134 : Try.prog.cellsOf 107 = 3 := by kernel_rfl
theorem cells102 : Try.prog.cellsOf 77 = 1 := by kernel_rfl
theorem cells39 : Try.prog.cellsOf 25 = 1 := by kernel_rfl
theorem cells41 : Try.prog.cellsOf 27 = 1 := by kernel_rfl

section
variable {H : Type} {enc : TypeId × Value → H} {w : World} {base : Nat} {held : Bool}

set_option maxRecDepth 100000 in
theorem items_in {fuel : Nat} {v : Value} {x : DataW H × List MemPlace} (h : DataW.trod enc Try.prog w base (fun _ => true) held fuel 77 [v] = some x) :
    ∃ (a : Option Addr) (cap : Nat) (ss : List Sy), v = .slice a ss.length cap ∧ Syms w a ss ∧ ss.length ≤ maxLen := by
  rcases open_slice Try.underlying77 h with ⟨hcs, _⟩ | ⟨y, l, c, m, n, D, Pl, hcs, _, hl, hm, hmm, _, hx⟩
  · injection hcs with hv _
    exact ⟨none, 0, [], hv, .inl rfl, Nat.zero_le _⟩
  · injection hcs with hv _
    simp only [if_true] at hmm
    subst hmm
    by_cases h0 : l = 0
    · subst h0
      exact ⟨some y, m, [], hv, .inl rfl, Nat.zero_le _⟩
    · obtain ⟨b, off, spot⟩ := y
      have each : ∀ i, i < m → ∃ s : Sy, w.cell? ((⟨b, off, spot⟩ : Addr).add (i * 3)) = some (.int .i64 s.head) ∧ w.cell? ((⟨b, off, spot⟩ : Addr).add (i * 3 + 1)) = some (.int .i64 s.low) ∧ w.cell? ((⟨b, off, spot⟩ : Addr).add (i * 3 + 2)) = some (.int .i64 s.high) := by
        intro i hi
        obtain ⟨cs', h1, h2⟩ := hx i hi
        rw [cells134] at h1
        obtain ⟨_, hlen, hcell⟩ := World.cells?_some h1
        obtain ⟨xs, k, hk, hxy, _, hxl, hf⟩ := DataW.trod_struct Try.underlying107 h2
        match xs, hxl, cs', hlen with
        | [y0, y1, y2], _, [v0, v1, v2], _ =>
          have g0 := hf 0 _ rfl
          have g1 := hf 1 _ rfl
          have g2 := hf 2 _ rfl
          simp [cells3] at g0 g1 g2
          have e0 := hcell 0 (by omega)
          have e1 := hcell 1 (by omega)
          have e2 := hcell 2 (by omega)
          rw [add_add] at e0 e1 e2
          obtain ⟨z0, q0, _⟩ := DataW.trod_int Try.underlying3 g0
          obtain ⟨z1, q1, _⟩ := DataW.trod_int Try.underlying3 g1
          obtain ⟨z2, q2, _⟩ := DataW.trod_int Try.underlying3 g2
          simp at q0 q1 q2
          subst q0 q1 q2
          exact ⟨⟨z0, z1, z2⟩, by simpa using e0, by simpa using e1, by simpa using e2⟩
      obtain ⟨f, hf⟩ := choose_lt each
      have hspot : spot = none := by
        have hc := (hf 0 (by omega)).1
        simpa [Addr.add] using World.cell?_spot hc
      subst hspot
      have hlm : ((List.range l).map f).length = l := by simp
      refine ⟨some ⟨b, off, none⟩, m, (List.range l).map f, by rw [hv, hlm], .inr ⟨b, off, rfl, fun i hi => ?_⟩, by rw [hlm]; omega⟩
      simp at hi
      obtain ⟨q0, q1, q2⟩ := hf i (by omega)
      rw [addAt] at q0 q1 q2
      simp only [List.getElem_map, List.getElem_range]
      exact ⟨q0, by rw [← Nat.add_assoc] at q1; exact q1, by rw [← Nat.add_assoc] at q2; exact q2⟩


set_option maxRecDepth 100000 in
theorem sets_in {fuel : Nat} {v : Value} {x : DataW H × List MemPlace} (h : DataW.trod enc Try.prog w base (fun _ => true) held fuel 25 [v] = some x) :
    ∃ (a : Option Addr) (cap : Nat) (ts : List (List Sy)), v = .slice a ts.length cap ∧ Sts w a ts ∧ ts.length ≤ maxLen ∧ ∀ t ∈ ts, t.length ≤ maxLen := by
  rcases open_slice Try.underlying25 h with ⟨hcs, _⟩ | ⟨y, l, c, m, n, D, Pl, hcs, _, hl, hm, hmm, _, hx⟩
  · injection hcs with hv _
    exact ⟨none, 0, [], hv, .inl rfl, Nat.zero_le _, by simp⟩
  · injection hcs with hv _
    simp only [if_true] at hmm
    subst hmm
    by_cases h0 : l = 0
    · subst h0
      exact ⟨some y, m, [], hv, .inl rfl, Nat.zero_le _, by simp⟩
    · obtain ⟨b, off, spot⟩ := y
      have each : ∀ i, i < m → ∃ t : List Sy, (∃ K kc, w.cell? ((⟨b, off, spot⟩ : Addr).add i) = some (.slice K t.length kc) ∧ Syms w K t) ∧ t.length ≤ maxLen := by
        intro i hi
        obtain ⟨cs', h1, h2⟩ := hx i hi
        rw [cells102] at h1
        obtain ⟨_, hlen, hcell⟩ := World.cells?_some h1
        match cs', hlen with
        | [v0], _ =>
          have e0 := hcell 0 (by omega)
          rw [add_add] at e0
          obtain ⟨K, kc, t, rfl, hK, hKm⟩ := items_in h2
          exact ⟨t, ⟨K, kc, by simpa using e0, hK⟩, hKm⟩
      obtain ⟨f, hf⟩ := choose_lt each
      have hspot : spot = none := by
        obtain ⟨⟨K, kc, hc, _⟩, _⟩ := hf 0 (by omega)
        simpa [Addr.add] using World.cell?_spot hc
      subst hspot
      have hlm : ((List.range l).map f).length = l := by simp
      refine ⟨some ⟨b, off, none⟩, m, (List.range l).map f, by rw [hv, hlm], .inr ⟨b, off, rfl, fun i hi => ?_⟩, by rw [hlm]; omega, fun p hp => ?_⟩
      · simp at hi
        obtain ⟨⟨K, kc, q0, q2⟩, _⟩ := hf i (by omega)
        rw [addAt] at q0
        simp only [List.getElem_map, List.getElem_range]
        exact ⟨K, kc, q0, q2⟩
      · obtain ⟨i, hi, rfl⟩ := List.mem_map.1 hp
        have := List.mem_range.1 hi
        exact (hf i (by omega)).2

set_option maxRecDepth 100000 in
/-- A chart that came in. -/
theorem chart_in {r : Reach} {b0 : Nat} {v : Value} {d : DataW H} {p : List MemPlace} (hv : Value.okWide Try.prog w r b0 27 v) (h : DataW.Trod enc Try.prog w base (fun _ => true) held 27 v d p) :
    ∃ (a : Option Addr) (c : Nat) (ts : List (List Sy)), v = .agg #[.slice a ts.length c] ∧ Sts w a ts ∧ ts.length ≤ maxLen ∧ (∀ t ∈ ts, t.length ≤ maxLen) := by
  obtain ⟨cs, rfl, hsz⟩ := okWide_struct Try.underlying27 hv
  obtain ⟨c0, rfl⟩ : ∃ c0, cs = #[c0] := by
    have h1 : cs.size = 1 := hsz.trans cells41
    exact ⟨cs[0], Array.ext (by simp [h1]) (fun i h1' h2' => by
      have : i = 0 := by simp at h2'; omega
      subst this; rfl)⟩
  obtain ⟨m, hm⟩ := h
  obtain ⟨y0, n, _, hlen, hy0⟩ := trod_struct1 Try.underlying27 hm
  have hy : DataW.trod enc Try.prog w base (fun _ => true) held n 25 [c0] = some y0 := by
    rw [cells39] at hy0
    simpa [Value.cells] using hy0
  obtain ⟨a, c, ts, rfl, hr, hm, hs⟩ := sets_in hy
  exact ⟨a, c, ts, rfl, hr, hm, hs⟩
end
end Go.Proofs.Ytafldjbmheopjaa
