/- How the argument of the laws is opened: productions by value. -/
import Derived.Test.YtkgiklmdpdakbaaC1
import Derived.ProofKit
import Derived.OpenShut
import Derived.ShutString
import Derived.ChangeOld
import Derived.Lib.SmallJoins
import Derived.SliceStrings
import Derived.Deep.SlicePairs
namespace Go.Proofs.Ytkgiklmdpdakbaa
open Go.ChangeShapes Go.WideShapes Go.ChangeAt Go.RowKit Go.Joins Go.Deep
set_option linter.unusedVariables false

theorem own : ownKnob Try.prog.godebug = none := by kernel_rfl
theorem laidOut : laidOutB Try.prog = true := by kernel_rfl

theorem cells24 : Try.prog.cellsOf 33 = 2 := by kernel_rfl
theorem cells63 : Try.prog.cellsOf 77 = 2 := by kernel_rfl
theorem cells92 : Try.prog.cellsOf 128 = 3 := by kernel_rfl
theorem cells61 : Try.prog.cellsOf 75 = 1 := by kernel_rfl
theorem cells22 : Try.prog.cellsOf 31 = 1 := by kernel_rfl
theorem cells3 : Try.prog.cellsOf 3 = 1 := by kernel_rfl

section
variable {H : Type} {enc : TypeId × Value → H} {w : World} {base : Nat} {held : Bool}

theorem addAt (b off i : Nat) : (Addr.add ⟨b, off, none⟩ i) = ⟨b, off + i, none⟩ := by unfold Addr.add; split <;> simp_all

set_option maxRecDepth 100000 in
theorem syms_in {fuel : Nat} {v : Value} {x : DataW H × List MemPlace} (h : DataW.trod enc Try.prog w base (fun _ => true) held fuel 75 [v] = some x) :
    ∃ (a : Option Addr) (cap : Nat) (ss : List Sy), v = .slice a ss.length cap ∧ Syms w a ss ∧ ss.length ≤ maxLen := by
  rcases open_slice Try.underlying75 h with ⟨hcs, _⟩ | ⟨y, l, c, m, n, D, Pl, hcs, _, hl, hm, hmm, _, hx⟩
  · injection hcs with hv _
    exact ⟨none, 0, [], hv, .inl rfl, Nat.zero_le _⟩
  · injection hcs with hv _
    simp only [if_true] at hmm
    subst hmm
    by_cases h0 : l = 0
    · subst h0
      exact ⟨some y, m, [], hv, .inl rfl, Nat.zero_le _⟩
    · obtain ⟨b, off, spot⟩ := y
      have each : ∀ i, i < m → ∃ s : Sy, w.cell? ((⟨b, off, spot⟩ : Addr).add (i * 3)) = some (.int .i64 s.head) ∧ w.cell? ((⟨b, off, spot⟩ : Addr).add (i * 3 + 1)) = some (.int .i64 s.low) ∧ w.cell? ((⟨b, off, spot⟩ : Addr).add (i * 3 + 2)) = some (.int .i64 s.high) := by
        intro i hi
        obtain ⟨cs', h1, h2⟩ := hx i hi
        rw [cells92] at h1
        obtain ⟨_, hlen, hcell⟩ := World.cells?_some h1
        obtain ⟨xs, k, hk, hxy, _, hxl, hf⟩ := DataW.trod_struct Try.underlying128 h2
        match xs, hxl, cs', hlen with
        | [y0, y1, y2], _, [v0, v1, v2], _ =>
          have g0 := hf 0 _ rfl
          have g1 := hf 1 _ rfl
          have g2 := hf 2 _ rfl
          simp [cells3] at g0 g1 g2
          have e0 := hcell 0 (by omega)
          have e1 := hcell 1 (by omega)
          have e2 := hcell 2 (by omega)
          rw [add_add] at e0 e1 e2
          obtain ⟨z0, q0, _⟩ := DataW.trod_int Try.underlying3 g0
          obtain ⟨z1, q1, _⟩ := DataW.trod_int Try.underlying3 g1
          obtain ⟨z2, q2, _⟩ := DataW.trod_int Try.underlying3 g2
          simp at q0 q1 q2
          subst q0 q1 q2
          exact ⟨⟨z0, z1, z2⟩, by simpa using e0, by simpa using e1, by simpa using e2⟩
      obtain ⟨f, hf⟩ := choose_lt each
      have hspot : spot = none := by
        have hc := (hf 0 (by omega)).1
        simpa [Addr.add] using World.cell?_spot hc
      subst hspot
      have hlm : ((List.range l).map f).length = l := by simp
      refine ⟨some ⟨b, off, none⟩, m, (List.range l).map f, by rw [hv, hlm], .inr ⟨b, off, rfl, fun i hi => ?_⟩, by rw [hlm]; omega⟩
      simp at hi
      obtain ⟨q0, q1, q2⟩ := hf i (by omega)
      rw [addAt] at q0 q1 q2
      simp only [List.getElem_map, List.getElem_range]
      exact ⟨q0, by rw [← Nat.add_assoc] at q1; exact q1, by rw [← Nat.add_assoc] at q2; exact q2⟩

set_option maxRecDepth 100000 in
theorem pds_in {fuel : Nat} {v : Value} {x : DataW H × List MemPlace} (h : DataW.trod enc Try.prog w base (fun _ => true) held fuel 31 [v] = some x) :
    ∃ (a : Option Addr) (cap : Nat) (ps : List Pd), v = .slice a ps.length cap ∧ Pds w a ps ∧ ps.length ≤ maxLen ∧ ∀ p ∈ ps, p.body.length ≤ maxLen := by
  rcases open_slice Try.underlying31 h with ⟨hcs, _⟩ | ⟨y, l, c, m, n, D, Pl, hcs, _, hl, hm, hmm, _, hx⟩
  · injection hcs with hv _
    exact ⟨none, 0, [], hv, .inl rfl, Nat.zero_le _, by simp⟩
  · injection hcs with hv _
    simp only [if_true] at hmm
    subst hmm
    by_cases h0 : l = 0
    · subst h0
      exact ⟨some y, m, [], hv, .inl rfl, Nat.zero_le _, by simp⟩
    · obtain ⟨b, off, spot⟩ := y
      have each : ∀ i, i < m → ∃ p : Pd, (∃ K kc, w.cell? ((⟨b, off, spot⟩ : Addr).add (i * 2)) = some (.int .i64 p.head) ∧ w.cell? ((⟨b, off, spot⟩ : Addr).add (i * 2 + 1)) = some (.slice K p.body.length kc) ∧ Syms w K p.body) ∧ p.body.length ≤ maxLen := by
        intro i hi
        obtain ⟨cs', h1, h2⟩ := hx i hi
        rw [cells63] at h1
        obtain ⟨_, hlen, hcell⟩ := World.cells?_some h1
        obtain ⟨xs, k, hk, hxy, _, hxl, hf⟩ := DataW.trod_struct Try.underlying77 h2
        match xs, hxl, cs', hlen with
        | [y0, y1], _, [v0, v1], _ =>
          have g0 := hf 0 _ rfl
          have g1 := hf 1 _ rfl
          simp [cells3, cells61] at g0 g1
          have e0 := hcell 0 (by omega)
          have e1 := hcell 1 (by omega)
          rw [add_add] at e0 e1
          obtain ⟨z0, q0, _⟩ := DataW.trod_int Try.underlying3 g0
          obtain ⟨K, kc, ss, rfl, hK, hKm⟩ := syms_in g1
          simp at q0
          subst q0
          exact ⟨⟨z0, ss⟩, ⟨K, kc, by simpa using e0, by simpa using e1, hK⟩, hKm⟩
      obtain ⟨f, hf⟩ := choose_lt each
      have hspot : spot = none := by
        obtain ⟨⟨K, kc, hc, _⟩, _⟩ := hf 0 (by omega)
        simpa [Addr.add] using World.cell?_spot hc
      subst hspot
      have hlm : ((List.range l).map f).length = l := by simp
      refine ⟨some ⟨b, off, none⟩, m, (List.range l).map f, by rw [hv, hlm], .inr ⟨b, off, rfl, fun i hi => ?_⟩, by rw [hlm]; omega, fun p hp => ?_⟩
      · simp at hi
        obtain ⟨⟨K, kc, q0, q1, q2⟩, _⟩ := hf i (by omega)
        rw [addAt] at q0 q1
        simp only [List.getElem_map, List.getElem_range]
        exact ⟨K, kc, q0, by rw [← Nat.add_assoc] at q1; exact q1, q2⟩
      · obtain ⟨i, hi, rfl⟩ := List.mem_map.1 hp
        have := List.mem_range.1 hi
        exact (hf i (by omega)).2

set_option maxRecDepth 100000 in
/-- Productions that came in. -/
theorem cfg_in {r : Reach} {b0 : Nat} {v : Value} {d : DataW H} {p : List MemPlace} (hv : Value.okWide Try.prog w r b0 33 v) (h : DataW.Trod enc Try.prog w base (fun _ => true) held 33 v d p) :
    ∃ (a : Option Addr) (c : Nat) (ps : List Pd) (hd : Int), v = .agg #[.int .i64 hd, .slice a ps.length c] ∧ Pds w a ps ∧ ps.length ≤ maxLen ∧ (∀ p ∈ ps, p.body.length ≤ maxLen) ∧ (Lit.int .i64 hd).wf = true := by
  obtain ⟨c0, c1, y0, y1, m, rfl, rfl, rfl, hy0, hy1⟩ := open_agg2 Try.underlying33 (by kernel_rfl) cells24 hv h
  obtain ⟨hd, e1, _, wen⟩ := DataW.trod_int Try.underlying3 hy0
  obtain ⟨a, c, ps, rfl, hr, hm, hs⟩ := pds_in hy1
  simp at e1
  subst e1
  exact ⟨a, c, ps, hd, rfl, hr, hm, hs, wen⟩
end
end Go.Proofs.Ytkgiklmdpdakbaa

/- How the argument of the laws that draw is opened: a slice of bytes. -/
namespace Go.Proofs.Ytkgiklmdpdakbaa
open Go.ChangeShapes Go.WideShapes Go.ChangeAt Go.RowKit Go.Joins
set_option linter.unusedVariables false
section
variable {H : Type} {enc : TypeId × Value → H} {w : World} {base : Nat} {held : Bool}

/-- A slice of ints of some kind that came in. -/
theorem nums_in {t e : TypeId} {k : IntKind} {fuel : Nat} {a : Option Addr} {len cap : Nat} {x : DataW H × List MemPlace} (ht : Try.prog.underlying t = some (.slice e)) (he : Try.prog.underlying e = some (.int k)) (hc : Try.prog.cellsOf e = 1)
    (h : DataW.trod enc Try.prog w base (fun _ => true) held fuel t [.slice a len cap] = some x) :
    ∃ (zs : List Int), zs.length = len ∧ Row w a (zs.map (.int k)) ∧ len ≤ maxLen ∧ len ≤ cap ∧ ∀ z ∈ zs, (Lit.int k z).wf = true := by
  rcases open_ints ht he hc h with ⟨hcs, _⟩ | ⟨y, l, c, zs, hcs, _, hl, hm, hz, _, hcell, hwz⟩
  · simp at hcs
    obtain ⟨rfl, rfl, rfl⟩ := hcs
    exact ⟨[], rfl, .inl rfl, Nat.zero_le _, Nat.le_refl _, by simp⟩
  · simp at hcs
    obtain ⟨rfl, rfl, rfl⟩ := hcs
    simp only [if_true] at hz
    have hlen : (zs.take len).length = len := by rw [List.length_take]; omega
    refine ⟨zs.take len, hlen, ?_, by omega, hl, fun z hz => hwz z (List.mem_of_mem_take hz)⟩
    by_cases h0 : len = 0
    · subst h0; exact .inl (by simp)
    · obtain ⟨b, off, spot⟩ := y
      have hspot : spot = none := by simpa [Addr.add] using World.cell?_spot (hcell 0 (by omega))
      subst hspot
      refine .inr ⟨b, off, rfl, fun i hi => ?_⟩
      have hi' : i < len := by simp at hi; omega
      have hcc := hcell i (by omega)
      have e1 : (Addr.add ⟨b, off, none⟩ i) = ⟨b, off + i, none⟩ := by unfold Addr.add; split <;> simp_all
      rw [e1] at hcc
      rw [hcc]
      simp [List.getD_eq_getElem?_getD, List.getElem?_eq_getElem (show i < zs.length by omega)]

theorem wf_u8 {z : Int} (h : (Lit.int .u8 z).wf = true) : 0 ≤ z ∧ z ≤ 255 := bounds_u8 h


end
end Go.Proofs.Ytkgiklmdpdakbaa

