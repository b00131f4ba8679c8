/- How the argument of the exact laws is opened: a value of the form, by value. -/
import Derived.Test.YtkhcappjhefkjaaGreatDoorQ2
import Derived.ProofKit
import Derived.OpenShut
import Derived.ShutString
import Derived.ChangeOld
import Derived.Lib.SmallJoins
import Derived.SliceStrings
import Derived.Deep.SlicePairs
import Derived.Test.YtkhcappjhefkjaaGreatDoorJD1
namespace Go.Proofs.YtkhcappjhefkjaaGreatDoor
open Go.ChangeShapes Go.WideShapes Go.ChangeAt Go.RowKit Go.Joins Go.Deep
set_option linter.unusedVariables false

theorem own : ownKnob Tryz.prog.godebug = none := by kernel_rfl
theorem laidOut : laidOutB Tryz.prog = true := by kernel_rfl

theorem cellsI : Tryz.prog.cellsOf 3 = 1 := by kernel_rfl
theorem cellsB : Tryz.prog.cellsOf 4 = 1 := by kernel_rfl
theorem cellsS : Tryz.prog.cellsOf 9 = 1 := by kernel_rfl
theorem cellsN : Tryz.prog.cellsOf 22 = 1 := by kernel_rfl
theorem cellsK : Tryz.prog.cellsOf 35 = 1 := by kernel_rfl
theorem cellsJ : Tryz.prog.cellsOf 37 = 5 := by kernel_rfl

instance : Inhabited Js := ⟨.mk 0 false ByteArray.empty [] []⟩

theorem addAt (b off i : Nat) : (Addr.add ⟨b, off, none⟩ i) = ⟨b, off + i, none⟩ := by unfold Addr.add; split <;> simp_all

section
variable {H : Type} {enc : TypeId × Value → H} {w : World} {base : Nat} {held : Bool}

/-- A slice of strings that came in. -/
theorem strings_in {fuel : Nat} {v : Value} {x : DataW H × List MemPlace}
    (h : DataW.trod enc Tryz.prog w base (fun _ => true) held fuel 22 [v] = some x) :
    ∃ (a : Option Addr) (c : Nat) (ss : List ByteArray), v = .slice a ss.length c ∧ Row w a (strs ss) ∧ ss.length ≤ maxLen ∧ ss.length ≤ c ∧ ∀ s ∈ ss, s.size ≤ maxLen := by
  rcases open_strings Tryz.underlying22 Tryz.underlying9 cellsS h with ⟨hcs, _⟩ | ⟨a, len, cap, ss, hcs, _, hl, hm, hz, _, hcell, hws⟩
  · injection hcs with hv _
    exact ⟨none, 0, [], hv, Row.nil, Nat.zero_le _, Nat.zero_le _, by simp⟩
  · injection hcs with hv _
    simp only [if_true] at hz
    have hlen : (ss.take len).length = len := by rw [List.length_take]; omega
    refine ⟨some a, cap, ss.take len, by rw [hv, hlen], ?_, by rw [hlen]; omega, by rw [hlen]; omega, fun s hs => hws s (List.mem_of_mem_take hs)⟩
    by_cases h0 : len = 0
    · subst h0; exact .inl (by simp [Go.Proofs.YtkhcappjhefkjaaGreatDoor.strs])
    · obtain ⟨b, off, spot⟩ := a
      have hspot : spot = none := by simpa [Addr.add] using World.cell?_spot (hcell 0 (by omega))
      subst hspot
      refine .inr ⟨b, off, rfl, fun i hi => ?_⟩
      have hi' : i < len := by simpa [hlen] using hi
      have hcc := hcell i (by omega)
      have e1 : (Addr.add ⟨b, off, none⟩ i) = ⟨b, off + i, none⟩ := by unfold Addr.add; split <;> simp_all
      rw [e1] at hcc
      rw [hcc, strs_get]
      simp [List.getD_eq_getElem?_getD, List.getElem?_eq_getElem (show i < ss.length by omega)]

set_option maxRecDepth 100000 in
/-- The five cells of a value. -/
theorem core_in : ∀ (n : Nat) (cs : List Value) (x : DataW H × List MemPlace), DataW.trod enc Tryz.prog w base (fun _ => true) held n 37 cs = some x → cs.length = 5 →
    ∃ (k : Int) (f : Bool) (t : ByteArray) (ns : List ByteArray) (kids : List Js) (A K : Option Addr) (ca kc : Nat),
      cs = [.int .i64 k, .bool f, .string t, .slice A ns.length ca, .slice K kids.length kc] ∧ JsV w 0 ns kids A K ∧ LimJ maxLen (.mk k f t ns kids) ∧ ns.length ≤ ca := by
  intro n
  induction n using Nat.strongRecOn with
  | _ n ih =>
    intro cs x h hc
    obtain ⟨xs, k, hk, hxy, _, hxl, hf⟩ := DataW.trod_struct Tryz.underlying37 h
    match xs, hxl, cs, hc with
    | [y0, y1, y2, y3, y4], _, [v0, v1, v2, v3, v4], _ =>
      have g0 := hf 0 _ rfl
      have g1 := hf 1 _ rfl
      have g2 := hf 2 _ rfl
      have g3 := hf 3 _ rfl
      have g4 := hf 4 _ rfl
      simp [cellsI, cellsB, cellsS, cellsN, cellsK] at g0 g1 g2 g3 g4
      obtain ⟨z0, q0, _⟩ := DataW.trod_int Tryz.underlying3 g0
      obtain ⟨z1, q1, _⟩ := DataW.trod_bool Tryz.underlying4 g1
      obtain ⟨t, q2, _, ht⟩ := DataW.trod_string Tryz.underlying9 g2
      obtain ⟨A, ca, ns, rfl, hA, hns, hnc, hnm⟩ := strings_in g3
      simp at q0 q1 q2
      subst q0 q1 q2
      have kids : ∃ (K : Option Addr) (kc : Nat) (ps : List Js), v4 = .slice K ps.length kc ∧ Jss w 0 K ps ∧ ps.length ≤ maxLen ∧ ∀ p ∈ ps, LimJ maxLen p := by
        rcases DataW.trod_slice Tryz.underlying35 g4 with ⟨hcs, _⟩ | ⟨y, l, c, elems, rest, m, hkm, hcs, _, hbl, hl, hm, hel, hx, _⟩
        · injection hcs with hv _
          exact ⟨none, 0, [], hv, Jss.nil, Nat.zero_le _, by simp⟩
        · injection hcs with hv _
          by_cases h0 : l = 0
          · subst h0
            exact ⟨some y, c, [], hv, Jss.nil, Nat.zero_le _, by simp⟩
          · obtain ⟨yb, yo, spot⟩ := y
            have each : ∀ i, i < l → ∃ cs', w.cells? base ((⟨yb, yo, spot⟩ : Addr).add (i * 5)) 5 = some cs' ∧ ∃ z, DataW.trod enc Tryz.prog w base (fun _ => true) held m 37 cs' = some z := by
              intro i hi'
              have := hx i hi'
              rw [cellsJ, List.getElem?_eq_getElem (by omega)] at this
              obtain ⟨cs', h1, h2⟩ := Option.bind_eq_some_iff.1 this
              exact ⟨cs', h1, _, h2⟩
            have hspot : spot = none := by
              obtain ⟨cs', h1, _⟩ := each 0 (by omega)
              obtain ⟨_, hlen, hcell⟩ := World.cells?_some h1
              have := hcell 0 (by omega)
              rw [add_add] at this
              have hh : ∃ v, w.cell? ((⟨yb, yo, spot⟩ : Addr).add (0 * 5 + 0)) = some v := by
                match cs', hlen with
                | v :: r, _ => exact ⟨v, by simpa using this⟩
              obtain ⟨v, hv'⟩ := hh
              simpa [Addr.add] using World.cell?_spot hv'
            subst hspot
            have each2 : ∀ i, i < l → ∃ p : Js, JsAt w 0 yb (yo + i * 5) p ∧ LimJ maxLen p := by
              intro i hi'
              obtain ⟨cs', h1, z, h2⟩ := each i hi'
              obtain ⟨_, hlen, hcell⟩ := World.cells?_some h1
              obtain ⟨k', f', t', ns', kids', A', K', ca', kc', rfl, hv', hl', hle'⟩ := ih m (by omega) cs' z h2 hlen
              obtain ⟨kb, ko, hK, hps⟩ := hv'.k
              have e0 := hcell 0 (by omega)
              have e1 := hcell 1 (by omega)
              have e2 := hcell 2 (by omega)
              have e3 := hcell 3 (by omega)
              have e4 := hcell 4 (by omega)
              rw [add_add, addAt, ← Nat.add_assoc] at e0 e1 e2 e3 e4
              exact ⟨.mk k' f' t' ns' kids', .mk yb (yo + i * 5) k' f' t' ns' kids' A' K' ca' kc' kb ko (by simpa using e0) (by simpa using e1) (by simpa using e2) (by simpa using e3) (by simpa using e4) hle' hv'.a hK hps (Nat.zero_le _) (fun _ _ => Nat.zero_le _), hl'⟩
            obtain ⟨f, hf'⟩ := choose_lt each2
            have hlm : ((List.range l).map f).length = l := by simp
            refine ⟨some ⟨yb, yo, none⟩, c, (List.range l).map f, by rw [hv, hlm], ⟨yb, yo, fun _ => rfl, fun i hi' => ?_⟩, by rw [hlm]; omega, fun p hp => ?_⟩
            · simp at hi'
              simp only [List.getElem_map, List.getElem_range]
              exact (hf' i hi').1
            · obtain ⟨i, hi', rfl⟩ := List.mem_map.1 hp
              exact (hf' i (List.mem_range.1 hi')).2
      obtain ⟨K, kc, ps, rfl, hK, hpl, hpm⟩ := kids
      exact ⟨z0, z1, t, ns, ps, A, K, ca, kc, rfl, ⟨hA, hK, fun _ _ => Nat.zero_le _⟩, .mk z0 z1 t ns ps ht hns hnm hpl hpm, hnc⟩

set_option maxRecDepth 100000 in
/-- A value that came in. -/
theorem json_in {r : Reach} {b0 : Nat} {v : Value} {d : DataW H} {p : List MemPlace} (hv : Value.okWide Tryz.prog w r b0 37 v) (h : DataW.Trod enc Tryz.prog w base (fun _ => true) held 37 v d p) :
    ∃ (k : Int) (f : Bool) (t : ByteArray) (ns : List ByteArray) (kids : List Js) (A K : Option Addr) (ca kc : Nat),
      v = .agg #[.int .i64 k, .bool f, .string t, .slice A ns.length ca, .slice K kids.length kc] ∧ JsV w 0 ns kids A K ∧ LimJ maxLen (.mk k f t ns kids) ∧ ns.length ≤ ca := by
  obtain ⟨cs, rfl, hsz⟩ := okWide_struct Tryz.underlying37 hv
  obtain ⟨m, hm⟩ := h
  obtain ⟨k, f, t, ns, kids, A, K, ca, kc, hcs, h1, h2, h3⟩ := core_in m _ _ hm (by simpa [Value.cells, cellsJ] using hsz)
  refine ⟨k, f, t, ns, kids, A, K, ca, kc, ?_, h1, h2, h3⟩
  have : cs.toList = [.int .i64 k, .bool f, .string t, .slice A ns.length ca, .slice K kids.length kc] := by simpa [Value.cells] using hcs
  rw [← this]
end
end Go.Proofs.YtkhcappjhefkjaaGreatDoor

/- How the code of a drawn law is opened: a slice of bytes. No condition. -/
namespace Go.Proofs.YtkhcappjhefkjaaGreatDoor
open Go.ChangeShapes Go.WideShapes Go.ChangeAt Go.RowKit Go.Joins
set_option linter.unusedVariables false

section
variable {H : Type} {enc : TypeId × Value → H} {w : World} {base : Nat} {held : Bool}
/-- A slice of ints of some kind that came in. -/
theorem nums_in {t e : TypeId} {k : IntKind} {fuel : Nat} {a : Option Addr} {len cap : Nat} {x : DataW H × List MemPlace} (ht : Tryz.prog.underlying t = some (.slice e)) (he : Tryz.prog.underlying e = some (.int k)) (hc : Tryz.prog.cellsOf e = 1)
    (h : DataW.trod enc Tryz.prog w base (fun _ => true) held fuel t [.slice a len cap] = some x) :
    ∃ (zs : List Int), zs.length = len ∧ Row w a (zs.map (.int k)) ∧ len ≤ maxLen ∧ len ≤ cap ∧ ∀ z ∈ zs, (Lit.int k z).wf = true := by
  rcases open_ints ht he hc h with ⟨hcs, _⟩ | ⟨y, l, c, zs, hcs, _, hl, hm, hz, _, hcell, hwz⟩
  · simp at hcs
    obtain ⟨rfl, rfl, rfl⟩ := hcs
    exact ⟨[], rfl, .inl rfl, Nat.zero_le _, Nat.le_refl _, by simp⟩
  · simp at hcs
    obtain ⟨rfl, rfl, rfl⟩ := hcs
    simp only [if_true] at hz
    have hlen : (zs.take len).length = len := by rw [List.length_take]; omega
    refine ⟨zs.take len, hlen, ?_, by omega, hl, fun z hz => hwz z (List.mem_of_mem_take hz)⟩
    by_cases h0 : len = 0
    · subst h0; exact .inl (by simp)
    · obtain ⟨b, off, spot⟩ := y
      have hspot : spot = none := by simpa [Addr.add] using World.cell?_spot (hcell 0 (by omega))
      subst hspot
      refine .inr ⟨b, off, rfl, fun i hi => ?_⟩
      have hi' : i < len := by simp at hi; omega
      have hcc := hcell i (by omega)
      have e1 : (Addr.add ⟨b, off, none⟩ i) = ⟨b, off + i, none⟩ := by unfold Addr.add; split <;> simp_all
      rw [e1] at hcc
      rw [hcc]
      simp [List.getD_eq_getElem?_getD, List.getElem?_eq_getElem (show i < zs.length by omega)]

theorem wf_u8 {z : Int} (h : (Lit.int .u8 z).wf = true) : 0 ≤ z ∧ z ≤ 255 := bounds_u8 h

end
end Go.Proofs.YtkhcappjhefkjaaGreatDoor

