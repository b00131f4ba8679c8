/- How the argument of the law is opened: a grammar by value. -/
import Derived.Test.YtjfohdalpjoaeaaDoorP2
import Derived.ProofKit
import Derived.OpenShut
import Derived.ShutString
import Derived.ChangeOld
import Derived.Lib.SmallJoins
import Derived.SliceStrings
import Derived.Deep.SlicePairs
namespace Go.Proofs.YtjfohdalpjoaeaaDoor
open Go.ChangeShapes Go.WideShapes Go.ChangeAt Go.RowKit Go.Joins Go.Deep
set_option linter.unusedVariables false

theorem own : ownKnob Tryd.prog.godebug = none := by kernel_rfl
theorem laidOut : laidOutB Tryd.prog = true := by kernel_rfl

theorem cells3 : Tryd.prog.cellsOf 3 = 1 := by kernel_rfl
theorem cells9 : Tryd.prog.cellsOf 9 = 1 := by kernel_rfl
theorem cells28 : Tryd.prog.cellsOf 28 = 1 := by kernel_rfl
theorem cells79 : Tryd.prog.cellsOf 79 = 1 := by kernel_rfl
theorem cells81 : Tryd.prog.cellsOf 81 = 7 := by kernel_rfl
theorem cells83 : Tryd.prog.cellsOf 83 = 8 := by kernel_rfl
theorem cells36 : Tryd.prog.cellsOf 36 = 1 := by kernel_rfl

instance : Inhabited Pt := ⟨.mk 0 ByteArray.empty [] [] [] 0 0⟩
instance : Inhabited Ru := ⟨⟨ByteArray.empty, default⟩⟩

section
variable {H : Type} {enc : TypeId × Value → H} {w : World} {base : Nat} {held : Bool}

theorem addAt (b off i : Nat) : (Addr.add ⟨b, off, none⟩ i) = ⟨b, off + i, none⟩ := by unfold Addr.add; split <;> simp_all

/-- A slice of ints that lies in a cell. -/
theorem ints_in {fuel : Nat} {v : Value} {x : DataW H × List MemPlace} (h : DataW.trod enc Tryd.prog w base (fun _ => true) held fuel 28 [v] = some x) :
    ∃ (A : Option Addr) (cap : Nat) (zs : List Int), v = .slice A zs.length cap ∧ Row w A (ints zs) ∧ zs.length ≤ maxLen := by
  rcases open_ints Tryd.underlying28 Tryd.underlying3 cells3 h with ⟨hcs, _⟩ | ⟨y, l, c, zs, hcs, _, hl, hm, hz, _, hcell, hwz⟩
  · injection hcs with hv _
    exact ⟨none, 0, [], hv, .inl rfl, Nat.zero_le _⟩
  · injection hcs with hv _
    simp only [if_true] at hz
    have hlen : (zs.take l).length = l := by rw [List.length_take]; omega
    refine ⟨some y, c, zs.take l, by rw [hlen]; exact hv, ?_, by omega⟩
    by_cases h0 : l = 0
    · subst h0; exact .inl (by simp [ints])
    · obtain ⟨b, off, spot⟩ := y
      have hspot : spot = none := by simpa [Addr.add] using World.cell?_spot (hcell 0 (by omega))
      subst hspot
      refine .inr ⟨b, off, rfl, fun i hi => ?_⟩
      have hi' : i < l := by simp [ints] at hi; omega
      have hcc := hcell i (by omega)
      rw [addAt] at hcc
      rw [hcc]
      have hz2 : i < zs.length := by omega
      simp [ints, hz2]

/-- Seven cells from a place on. -/
def Seven (w : World) (b off : Nat) (cs : List Value) : Prop := cs.length = 7 ∧ ∀ i (h : i < cs.length), w.cell? ⟨b, off + i, none⟩ = some cs[i]

set_option maxRecDepth 100000 in
theorem part_in : ∀ (n : Nat) (cs : List Value) (x : DataW H × List MemPlace) (b off : Nat), DataW.trod enc Tryd.prog w base (fun _ => true) held n 81 cs = some x → Seven w b off cs → ∃ p : Pt, PtAt w 0 b off p ∧ Lim maxLen p := by
  intro n
  induction n using Nat.strongRecOn with
  | _ n ih =>
    intro cs x b off h hc
    obtain ⟨xs, k, hk, hxy, _, hxl, hf⟩ := DataW.trod_struct Tryd.underlying81 h
    match xs, hxl, cs, hc.1 with
    | [y0, y1, y2, y3, y4, y5, y6], _, [v0, v1, v2, v3, v4, v5, v6], _ =>
      have g0 := hf 0 _ rfl
      have g1 := hf 1 _ rfl
      have g2 := hf 2 _ rfl
      have g3 := hf 3 _ rfl
      have g4 := hf 4 _ rfl
      have g5 := hf 5 _ rfl
      have g6 := hf 6 _ rfl
      simp [cells3, cells9, cells28, cells79] at g0 g1 g2 g3 g4 g5 g6
      have e0 := hc.2 0 (by simp)
      have e1 := hc.2 1 (by simp)
      have e2 := hc.2 2 (by simp)
      have e3 := hc.2 3 (by simp)
      have e4 := hc.2 4 (by simp)
      have e5 := hc.2 5 (by simp)
      have e6 := hc.2 6 (by simp)
      simp at e0 e1 e2 e3 e4 e5 e6
      obtain ⟨z0, q0, _⟩ := DataW.trod_int Tryd.underlying3 g0
      obtain ⟨t, q1, _, ht⟩ := DataW.trod_string Tryd.underlying9 g1
      obtain ⟨A, ca, lo, rfl, hA, hlo⟩ := ints_in g2
      obtain ⟨B, cb, hi, rfl, hB, hhi⟩ := ints_in g3
      obtain ⟨z5, q5, _⟩ := DataW.trod_int Tryd.underlying3 g5
      obtain ⟨z6, q6, _⟩ := DataW.trod_int Tryd.underlying3 g6
      simp at q0 q1 q5 q6
      subst q0 q1 q5 q6
      have kids : ∃ (K : Option Addr) (kc kb ko : Nat) (ps : List Pt), v4 = .slice K ps.length kc ∧ (ps ≠ [] → K = some ⟨kb, ko, none⟩) ∧ (∀ i (h : i < ps.length), PtAt w 0 kb (ko + i * 7) ps[i]) ∧ ps.length ≤ maxLen ∧ ∀ p ∈ ps, Lim maxLen p := by
        rcases DataW.trod_slice Tryd.underlying79 g4 with ⟨hcs, _⟩ | ⟨y, l, c, elems, rest, m, hkm, hcs, _, hbl, hl, hm, hel, hx, _⟩
        · injection hcs with hv _
          exact ⟨none, 0, 0, 0, [], hv, fun h => absurd rfl h, fun i h => absurd h (by simp), Nat.zero_le _, by simp⟩
        · injection hcs with hv _
          by_cases h0 : l = 0
          · subst h0
            exact ⟨some y, c, 0, 0, [], hv, fun h => absurd rfl h, fun i h => absurd h (by simp), Nat.zero_le _, by simp⟩
          · obtain ⟨yb, yo, spot⟩ := y
            have each : ∀ i, i < l → ∃ cs', w.cells? base ((⟨yb, yo, spot⟩ : Addr).add (i * 7)) 7 = some cs' ∧ ∃ z, DataW.trod enc Tryd.prog w base (fun _ => true) held m 81 cs' = some z := by
              intro i hi'
              have := hx i hi'
              rw [cells81, List.getElem?_eq_getElem (by omega)] at this
              obtain ⟨cs', h1, h2⟩ := Option.bind_eq_some_iff.1 this
              exact ⟨cs', h1, _, h2⟩
            have hspot : spot = none := by
              obtain ⟨cs', h1, _⟩ := each 0 (by omega)
              obtain ⟨_, hlen, hcell⟩ := World.cells?_some h1
              have := hcell 0 (by omega)
              rw [add_add] at this
              have hh : ∃ v, w.cell? ((⟨yb, yo, spot⟩ : Addr).add (0 * 7 + 0)) = some v := by
                match cs', hlen with
                | v :: r, _ => exact ⟨v, by simpa using this⟩
              obtain ⟨v, hv'⟩ := hh
              simpa [Addr.add] using World.cell?_spot hv'
            subst hspot
            have each2 : ∀ i, i < l → ∃ p : Pt, PtAt w 0 yb (yo + i * 7) p ∧ Lim maxLen p := by
              intro i hi'
              obtain ⟨cs', h1, z, h2⟩ := each i hi'
              obtain ⟨_, hlen, hcell⟩ := World.cells?_some h1
              refine ih m (by omega) cs' z yb (yo + i * 7) h2 ⟨hlen, fun j hj => ?_⟩
              have := hcell j (by omega)
              rw [add_add, addAt] at this
              rw [Nat.add_assoc, this]
              simp [hj]
            obtain ⟨f, hf'⟩ := choose_lt each2
            have hlm : ((List.range l).map f).length = l := by simp
            refine ⟨some ⟨yb, yo, none⟩, c, yb, yo, (List.range l).map f, by rw [hv, hlm], fun _ => rfl, fun i hi' => ?_, by rw [hlm]; omega, fun p hp => ?_⟩
            · simp at hi'
              simp only [List.getElem_map, List.getElem_range]
              exact (hf' i hi').1
            · obtain ⟨i, hi', rfl⟩ := List.mem_map.1 hp
              exact (hf' i (List.mem_range.1 hi')).2
      obtain ⟨K, kc, kb, ko, ps, rfl, hK, hps, hpl, hpm⟩ := kids
      exact ⟨.mk z0 t lo hi ps z5 z6, .mk b off z0 t lo hi ps z5 z6 A B K ca cb kc kb ko e0 e1 e2 e3 e4 e5 e6 hA hB hK hps (Nat.zero_le _) (fun _ _ => Nat.zero_le _) (fun _ _ => Nat.zero_le _), .mk z0 t lo hi ps z5 z6 ht hlo hhi hpl hpm⟩

set_option maxRecDepth 100000 in
theorem rules_in {fuel : Nat} {v : Value} {x : DataW H × List MemPlace} (h : DataW.trod enc Tryd.prog w base (fun _ => true) held fuel 36 [v] = some x) :
    ∃ (a : Option Addr) (cap : Nat) (rs : List Ru), v = .slice a rs.length cap ∧ Rus w 0 a rs ∧ rs.length ≤ maxLen ∧ LimR maxLen rs := by
  rcases open_slice Tryd.underlying36 h with ⟨hcs, _⟩ | ⟨y, l, c, m, n, D, Pl, hcs, _, hl, hm, hmm, _, hx⟩
  · injection hcs with hv _
    exact ⟨none, 0, [], hv, .inl rfl, Nat.zero_le _, by simp [LimR]⟩
  · injection hcs with hv _
    simp only [if_true] at hmm
    subst hmm
    by_cases h0 : l = 0
    · subst h0
      exact ⟨some y, m, [], hv, .inl rfl, Nat.zero_le _, by simp [LimR]⟩
    · obtain ⟨b, off, spot⟩ := y
      have hspot : spot = none := by
        obtain ⟨cs', h1, _⟩ := hx 0 (by omega)
        rw [cells83] at h1
        obtain ⟨_, hlen, hcell⟩ := World.cells?_some h1
        have := hcell 0 (by omega)
        rw [add_add] at this
        have hh : ∃ v, w.cell? ((⟨b, off, spot⟩ : Addr).add (0 * 8 + 0)) = some v := by
          match cs', hlen with
          | v :: r, _ => exact ⟨v, by simpa using this⟩
        obtain ⟨v, hv'⟩ := hh
        simpa [Addr.add] using World.cell?_spot hv'
      subst hspot
      have each : ∀ i, i < m → ∃ r : Ru, RuAt w 0 b (off + i * 8) r ∧ r.name.size ≤ maxLen ∧ Lim maxLen r.p := by
        intro i hi
        obtain ⟨cs', h1, h2⟩ := hx i hi
        rw [cells83] at h1
        obtain ⟨_, hlen, hcell⟩ := World.cells?_some h1
        obtain ⟨xs, k, hk, hxy, _, hxl, hf⟩ := DataW.trod_struct Tryd.underlying83 h2
        match xs, hxl, cs', hlen with
        | [y0, y1], _, v0 :: r, hlen =>
          have g0 := hf 0 _ rfl
          have g1 := hf 1 _ rfl
          simp [cells9, cells81] at g0 g1
          have e0 := hcell 0 (by omega)
          rw [add_add, addAt] at e0
          obtain ⟨t, q0, _, ht⟩ := DataW.trod_string Tryd.underlying9 g0
          simp at q0
          subst q0
          have hr7 : r.length = 7 := by simpa using hlen
          rw [List.take_of_length_le (by omega)] at g1
          obtain ⟨p, hp, hpl⟩ := part_in k r y1 b (off + i * 8 + 1) g1 ⟨hr7, fun j hj => by
            have := hcell (j + 1) (by omega)
            rw [add_add, addAt] at this
            have e : off + i * 8 + 1 + j = off + (i * 8 + (j + 1)) := by omega
            rw [e, this]
            simp [hj]⟩
          exact ⟨⟨t, p⟩, ⟨by simpa using e0, hp⟩, ht, hpl⟩
      obtain ⟨f, hf⟩ := choose_lt each
      have hlm : ((List.range l).map f).length = l := by simp
      refine ⟨some ⟨b, off, none⟩, m, (List.range l).map f, by rw [hv, hlm], .inr ⟨b, off, rfl, Nat.zero_le _, fun i hi => ?_⟩, by rw [hlm]; omega, fun r hr => ?_⟩
      · simp at hi
        simp only [List.getElem_map, List.getElem_range]
        exact (hf i (by omega)).1
      · obtain ⟨i, hi, rfl⟩ := List.mem_map.1 hr
        have := List.mem_range.1 hi
        exact (hf i (by omega)).2

set_option maxRecDepth 100000 in
/-- A grammar that came in. -/
theorem gram_in {r : Reach} {b0 : Nat} {v : Value} {d : DataW H} {p : List MemPlace} (hv : Value.okWide Tryd.prog w r b0 38 v) (h : DataW.Trod enc Tryd.prog w base (fun _ => true) held 38 v d p) :
    ∃ (a : Option Addr) (c : Nat) (rs : List Ru), v = .agg #[.slice a rs.length c] ∧ Rus w 0 a rs ∧ rs.length ≤ maxLen ∧ LimR maxLen rs := by
  have c38 : Tryd.prog.cellsOf 38 = 1 := by kernel_rfl
  obtain ⟨cs, rfl, hsz⟩ := okWide_struct Tryd.underlying38 hv
  obtain ⟨c0, rfl⟩ : ∃ c0, cs = #[c0] := by
    have h1 : cs.size = 1 := hsz.trans c38
    exact ⟨cs[0], Array.ext (by simp [h1]) (fun i h1' h2' => by
      have : i = 0 := by simp at h2'; omega
      subst this; rfl)⟩
  obtain ⟨m, hm⟩ := h
  obtain ⟨y0, n, _, hlen, hy0⟩ := trod_struct1 Tryd.underlying38 hm
  have hy : DataW.trod enc Tryd.prog w base (fun _ => true) held n 36 [c0] = some y0 := by
    rw [cells36] at hy0
    simpa [Value.cells] using hy0
  obtain ⟨a, c, rs, rfl, h1, h2, h3⟩ := rules_in hy
  exact ⟨a, c, rs, rfl, h1, h2, h3⟩
end
end Go.Proofs.YtjfohdalpjoaeaaDoor
