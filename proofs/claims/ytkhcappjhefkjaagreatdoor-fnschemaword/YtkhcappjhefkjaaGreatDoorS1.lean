/- Schemas in memory, and how large they are. (written by gen_s1.py from J1) -/
import Derived.Test.YtkhcappjhefkjaaGreatDoorQ3
namespace Go.Proofs.YtkhcappjhefkjaaGreatDoor
open Go.RowKit
set_option linter.unusedVariables false

mutual
def Sc.ht : Sc → Nat
  | .mk _ _ _ _ _ kids => htS kids + 1
def htS : List Sc → Nat
  | [] => 0
  | p :: r => max p.ht (htS r)
end
theorem htS_mem {p : Sc} : ∀ {kids : List Sc}, p ∈ kids → p.ht ≤ htS kids
  | q :: r, h => by
    unfold htS
    rcases List.mem_cons.1 h with rfl | h
    · exact Nat.le_max_left _ _
    · exact Nat.le_trans (htS_mem h) (Nat.le_max_right _ _)
theorem htS_mk {k mn mx : Int} {ns : List ByteArray} {ms : List Bool} {kids : List Sc} : (Sc.mk k mn mx ns ms kids).ht = htS kids + 1 := by rw [Sc.ht]
theorem htS_le {kids : List Sc} {d : Nat} : htS kids ≤ d ↔ ∀ p ∈ kids, p.ht ≤ d := by
  induction kids with
  | nil => simp [htS]
  | cons p r ih => simp [htS, Nat.max_le, ih]

/-- A number of 64 bits. -/
def I64 (z : Int) : Prop := -9223372036854775808 ≤ z ∧ z ≤ 9223372036854775807
/-- Whatever there is in a schema is at most so long. -/
inductive LimS (M : Nat) : Sc → Prop
  | mk (k mn mx : Int) (ns : List ByteArray) (ms : List Bool) (kids : List Sc) : ns.length ≤ M → (∀ n ∈ ns, n.size ≤ M) → ms.length ≤ M → kids.length ≤ M → (∀ p ∈ kids, LimS M p) → (I64 mn ∧ I64 mx) → LimS M (.mk k mn mx ns ms kids)

/-- One schema in six cells from a place on, and all that it has in memory, in blocks from B0 on. -/
inductive ScAt (w : World) (B0 : Nat) : Nat → Nat → Sc → Prop
  | mk (b off : Nat) (k mn mx : Int) (ns : List ByteArray) (ms : List Bool) (kids : List Sc) (A M K : Option Addr) (ca ma kc : Nat) (kb ko : Nat)
    (c0 : w.cell? ⟨b, off, none⟩ = some (.int .i64 k)) (c1 : w.cell? ⟨b, off + 1, none⟩ = some (.int .i64 mn)) (c2 : w.cell? ⟨b, off + 2, none⟩ = some (.int .i64 mx))
    (c3 : w.cell? ⟨b, off + 3, none⟩ = some (.slice A ns.length ca)) (c4 : w.cell? ⟨b, off + 4, none⟩ = some (.slice M ms.length ma)) (c5 : w.cell? ⟨b, off + 5, none⟩ = some (.slice K kids.length kc)) (le : ns.length ≤ ca)
    (hA : Row w A (strs ns)) (hM : Row w M (bols ms)) (hK : kids ≠ [] → K = some ⟨kb, ko, none⟩) (hk : ∀ i (h : i < kids.length), ScAt w B0 kb (ko + i * 6) kids[i])
    (l0 : B0 ≤ b) (l1 : ∀ x, A = some x → B0 ≤ x.block) (l2 : ∀ x, M = some x → B0 ≤ x.block) : ScAt w B0 b off (.mk k mn mx ns ms kids)

/-- Schemas, one behind the other. -/
def Scs (w : World) (B0 : Nat) (K : Option Addr) (ps : List Sc) : Prop := ∃ b off, (ps ≠ [] → K = some ⟨b, off, none⟩) ∧ ∀ i (h : i < ps.length), ScAt w B0 b (off + i * 6) ps[i]
theorem Scs.at_ {w : World} {B0 : Nat} {K : Option Addr} {ps : List Sc} (h : Scs w B0 K ps) {i : Nat} (hi : i < ps.length) : ∃ b off, K = some ⟨b, off, none⟩ ∧ ScAt w B0 b (off + i * 6) ps[i] := by
  obtain ⟨b, off, e, h⟩ := h
  exact ⟨b, off, e (fun h0 => by subst h0; simp at hi), h i hi⟩
theorem Scs.nil {w : World} {B0 : Nat} {K : Option Addr} : Scs w B0 K [] := ⟨0, 0, fun h => absurd rfl h, fun i h => absurd h (by simp)⟩

/-- What a schema that is handed on has in memory. -/
structure ScV (w : World) (B0 : Nat) (ns : List ByteArray) (ms : List Bool) (kids : List Sc) (A M K : Option Addr) : Prop where
  a : Row w A (strs ns)
  m : Row w M (bols ms)
  k : Scs w B0 K kids
  l1 : ∀ x, A = some x → B0 ≤ x.block
  l2 : ∀ x, M = some x → B0 ≤ x.block

theorem ScAt.mv {w w' : World} {B0 : Nat} (hu : Upon B0 w w') {b off : Nat} {p : Sc} (h : ScAt w B0 b off p) : ScAt w' B0 b off p := by
  induction h with
  | mk b off k mn mx ns ms kids A M K ca ma kc kb ko c0 c1 c2 c3 c4 c5 le hA hM hK hk l0 l1 l2 ih =>
    exact .mk b off k mn mx ns ms kids A M K ca ma kc kb ko (hu.cell c0 l0) (hu.cell c1 l0) (hu.cell c2 l0) (hu.cell c3 l0) (hu.cell c4 l0) (hu.cell c5 l0) le (hu.row hA l1) (hu.row hM l2) hK ih l0 l1 l2
theorem ScAt.low {w : World} {B0 B1 : Nat} (hB : B1 ≤ B0) {b off : Nat} {p : Sc} (h : ScAt w B0 b off p) : ScAt w B1 b off p := by
  induction h with
  | mk b off k mn mx ns ms kids A M K ca ma kc kb ko c0 c1 c2 c3 c4 c5 le hA hM hK hk l0 l1 l2 ih =>
    exact .mk b off k mn mx ns ms kids A M K ca ma kc kb ko c0 c1 c2 c3 c4 c5 le hA hM hK ih (by omega) (fun x e => by have := l1 x e; omega) (fun x e => by have := l2 x e; omega)
theorem ScAt.keep {w w' : World} {B0 : Nat} {b off : Nat} {p : Sc} (h : ScAt w B0 b off p) (hb : Below w.heap.size w w') : ScAt w' B0 b off p := h.mv (.of_below hb)
theorem Scs.mv {w w' : World} {B0 : Nat} {K : Option Addr} {ps : List Sc} (h : Scs w B0 K ps) (hu : Upon B0 w w') : Scs w' B0 K ps := by
  obtain ⟨b, off, e, h⟩ := h
  exact ⟨b, off, e, fun i hi => (h i hi).mv hu⟩
theorem Scs.keep {w w' : World} {B0 : Nat} {K : Option Addr} {ps : List Sc} (h : Scs w B0 K ps) (hb : Below w.heap.size w w') : Scs w' B0 K ps := h.mv (.of_below hb)
theorem Scs.low {w : World} {B0 B1 : Nat} {K : Option Addr} {ps : List Sc} (h : Scs w B0 K ps) (hB : B1 ≤ B0) : Scs w B1 K ps := by
  obtain ⟨b, off, e, h⟩ := h
  exact ⟨b, off, e, fun i hi => (h i hi).low hB⟩
theorem ScV.mv {w w' : World} {B0 : Nat} {ns : List ByteArray} {ms : List Bool} {kids : List Sc} {A M K : Option Addr} (h : ScV w B0 ns ms kids A M K) (hu : Upon B0 w w') : ScV w' B0 ns ms kids A M K := ⟨hu.row h.a h.l1, hu.row h.m h.l2, h.k.mv hu, h.l1, h.l2⟩
theorem ScV.keep {w w' : World} {B0 : Nat} {ns : List ByteArray} {ms : List Bool} {kids : List Sc} {A M K : Option Addr} (h : ScV w B0 ns ms kids A M K) (hb : Below w.heap.size w w') : ScV w' B0 ns ms kids A M K := h.mv (.of_below hb)
theorem ScV.low {w : World} {B0 B1 : Nat} {ns : List ByteArray} {ms : List Bool} {kids : List Sc} {A M K : Option Addr} (h : ScV w B0 ns ms kids A M K) (hB : B1 ≤ B0) : ScV w B1 ns ms kids A M K := ⟨h.a, h.m, h.k.low hB, fun x e => by have := h.l1 x e; omega, fun x e => by have := h.l2 x e; omega⟩

/-- The cells of a schema, as a load of it finds them. -/
structure ScCells (w : World) (b off : Nat) (k mn mx : Int) (ns : List ByteArray) (ms : List Bool) (kids : List Sc) (A M K : Option Addr) (ca ma kc : Nat) : Prop where
  c0 : w.cell? ⟨b, off, none⟩ = some (.int .i64 k)
  c1 : w.cell? ⟨b, off + 1, none⟩ = some (.int .i64 mn)
  c2 : w.cell? ⟨b, off + 2, none⟩ = some (.int .i64 mx)
  c3 : w.cell? ⟨b, off + 3, none⟩ = some (.slice A ns.length ca)
  c4 : w.cell? ⟨b, off + 4, none⟩ = some (.slice M ms.length ma)
  c5 : w.cell? ⟨b, off + 5, none⟩ = some (.slice K kids.length kc)
  le : ns.length ≤ ca
theorem ScAt.open_ {w : World} {B0 b off : Nat} {k mn mx : Int} {ns : List ByteArray} {ms : List Bool} {kids : List Sc} (h : ScAt w B0 b off (.mk k mn mx ns ms kids)) :
    ∃ A M K ca ma kc, ScCells w b off k mn mx ns ms kids A M K ca ma kc ∧ ScV w B0 ns ms kids A M K := by
  cases h with
  | mk _ _ _ _ _ _ _ _ A M K ca ma kc kb ko c0 c1 c2 c3 c4 c5 le hA hM hK hk l0 l1 l2 => exact ⟨A, M, K, ca, ma, kc, ⟨c0, c1, c2, c3, c4, c5, le⟩, hA, hM, ⟨kb, ko, hK, hk⟩, l1, l2⟩
theorem ScCells.mk_ {w : World} {B0 b off : Nat} {k mn mx : Int} {ns : List ByteArray} {ms : List Bool} {kids : List Sc} {A M K : Option Addr} {ca ma kc : Nat} (h : ScCells w b off k mn mx ns ms kids A M K ca ma kc) (hv : ScV w B0 ns ms kids A M K) (hb : B0 ≤ b) : ScAt w B0 b off (.mk k mn mx ns ms kids) := by
  obtain ⟨kb, ko, hK, hk⟩ := hv.k
  exact .mk b off k mn mx ns ms kids A M K ca ma kc kb ko h.c0 h.c1 h.c2 h.c3 h.c4 h.c5 h.le hv.a hv.m hK hk hb hv.l1 hv.l2

set_option maxHeartbeats 400000 in
theorem szBools_any (ms : List Bool) (a : Option Addr) (c : Nat) (left : Int) (w : World) (hm : ms.length ≤ maxLen) (h0 : 0 ≤ left) (h1 : left ≤ 1048576) :
    Calls Tryz.prog 35 #[.slice a ms.length c, .int .i64 left] w (SzPost (ms.length ≤ 1048576) w) := by
  unfold maxLen at hm
  by_cases hneg : left - (ms.length : Int) < 0
  · go_enter Tryz.func35, Tryz.ntmps35
    go_wp2
    go_ret
    exact ⟨-1, rfl, by omega, .inl (by omega), Below.refl _ _⟩
  · go_enter Tryz.func35, Tryz.ntmps35
    go_wp2
    go_ret
    exact ⟨_, rfl, by omega, .inr ⟨by omega, by omega⟩, Below.refl _ _⟩

/-- Sizing of values that are at most so high. -/
def SzSP (n : Nat) : Prop := ∀ (k mn mx : Int) (ns : List ByteArray) (ms : List Bool) (kids : List Sc) (A M K : Option Addr) (ca ma kc B0 : Nat) (left : Int) (w : World), htS kids + 1 ≤ n → ScV w B0 ns ms kids A M K → LimS maxLen (.mk k mn mx ns ms kids) → 0 ≤ left → left ≤ 1048576 →
  Calls Tryz.prog 15 #[.agg #[.int .i64 k, .int .i64 mn, .int .i64 mx, .slice A ns.length ca, .slice M ms.length ma, .slice K kids.length kc], .int .i64 left] w (SzPost (LimS 1048576 (.mk k mn mx ns ms kids)) w)

set_option maxRecDepth 100000 in
set_option maxHeartbeats 1000000 in
theorem szsKids_any {n : Nat} (IH : SzSP n) (kids : List Sc) (K : Option Addr) (kc B0 : Nat) (left : Int) (w : World) (hh : htS kids ≤ n) (hk : Scs w B0 K kids) (hm : kids.length ≤ maxLen) (hl : ∀ p ∈ kids, LimS maxLen p) (h0 : 0 ≤ left) (h1 : left ≤ 1048576) :
    Calls Tryz.prog 36 #[.slice K kids.length kc, .int .i64 left] w (SzPost (kids.length ≤ 1048576 ∧ ∀ p ∈ kids, LimS 1048576 p) w) := by
  have HI := Lib.hid IH
  have HK := Lib.hid hk
  have HL := Lib.hid hl
  have HH := Lib.hid hh
  unfold maxLen at hm
  clear IH hk hl hh
  by_cases hneg : left - (kids.length : Int) < 0
  · go_enter Tryz.func36, Tryz.ntmps36
    go_wp2
    go_ret
    exact ⟨-1, rfl, by omega, .inl (by omega), Below.refl _ _⟩
  · have hkl : kids.length ≤ 1048576 := by omega
    go_enter Tryz.func36, Tryz.ntmps36
    go_wp2
    go_loopw [1, 5] (fun q i wr => ∃ j : Nat, j ≤ kids.length ∧ i = .int .i64 j ∧ (∃ z : Int, q = .int .i64 z ∧ 0 ≤ z ∧ z ≤ 1048576) ∧ Hid (∀ u (h : u < kids.length), u < j → LimS 1048576 kids[u]) ∧ Below w.heap.size w wr) (fun _ i _ => kids.length - (intOf i).toNat)
    case atStart => exact ⟨0, Nat.zero_le _, rfl, ⟨_, rfl, by omega, by omega⟩, fun u _ hu => by omega, Below.refl _ _⟩
    case round =>
      obtain ⟨j, hj, rfl, ⟨z, rfl, hz0, hz1⟩, HU, hb⟩ := hrel
      by_cases hlt : j < kids.length
      · have hlt' : (j : Int) < (kids.length : Int) := by omega
        obtain ⟨b, off, rfl, hp⟩ := (HK.out.keep hb).at_ hlt
        have hmem := List.getElem_mem hlt
        have hlim := HL.out _ hmem
        have hht := htS_mem hmem
        have HUJ : Hid (LimS 1048576 kids[j] → ∀ u (h : u < kids.length), u < j + 1 → LimS 1048576 kids[u]) := fun h1 u hu huj => by
          rcases Nat.lt_succ_iff_lt_or_eq.1 huj with h3 | h3
          · exact HU.out u hu h3
          · subst h3; exact h1
        clear hmem
        generalize kids[j] = p at *
        obtain ⟨pk, pmn, pmx, pns, pms, pkids⟩ := p
        rw [htS_mk] at hht
        obtain ⟨PA, PM, PK, pa, pm, pc, hc, hv⟩ := hp.open_
        obtain ⟨c0, c1, c2, c3, c4, c5, cle⟩ := hc
        have HC := Lib.hid (HI.out pk pmn pmx pns pms pkids PA PM PK pa pm pc B0 z wr (by have := HH.out; omega) hv hlim hz0 hz1)
        clear hp hv hlim hht
        go_wp2_with fail
        refine HC.out.mono ?_
        rintro e w2 ⟨r, rfl, hr1, hr, hb2⟩
        have hb' : Below w.heap.size w w2 := hb.trans (hb2.mono hb.size)
        have HRR := Lib.hid hr
        clear hb hb2 HC c0 c1 c2 c3 c4 c5 hr
        by_cases hr0 : r < 0
        · go_wp2
          go_ret
          exact ⟨-1, rfl, by omega, .inl (by omega), hb'⟩
        · have HU2 := Lib.hid (HUJ.out (HRR.out.resolve_left hr0).2)
          go_wp2
          go_roundw
          case rel => exact ⟨j + 1, by omega, by go_num, ⟨r, rfl, by omega, by omega⟩, HU2, hb'⟩
          case measure => simp [intOf]; omega
      · have hlt' : ¬ (j : Int) < (kids.length : Int) := by omega
        go_wp2
        go_ret
        refine ⟨z, rfl, hz1, .inr ⟨hz0, fun p hp => ?_⟩, hb⟩
        obtain ⟨u, hu, rfl⟩ := List.getElem_of_mem hp
        exact HU.out u hu (by omega)

set_option maxRecDepth 100000 in
set_option maxHeartbeats 1000000 in
theorem szsStep {n : Nat} (IH : SzSP n) : SzSP (n + 1) := by
  intro k mn mx ns ms kids A M K ca ma kc B0 left w hh hv hl h0 h1
  have HI := Lib.hid IH
  have HV := Lib.hid hv
  cases hl with
  | mk _ _ _ _ _ _ l2 l3 lm l4 l5 lb =>
  have HL5 := Lib.hid l5
  have HL3 := Lib.hid l3
  have LB := Lib.hid lb
  clear IH hv l5 l3 lb
  have HBX := Lib.hid (below_box (w := w) (.cells #[.int .i64 k, .int .i64 mn, .int .i64 mx, .slice A ns.length ca, .slice M ms.length ma, .slice K kids.length kc] 26))
  have HCN := Lib.hid (szNames_any ns A ca left _ (HV.out.a.keep HBX.out) l2 HL3.out h0 h1)
  go_enter Tryz.func15, Tryz.ntmps15
  go_wp2_with fail
  refine HCN.out.mono ?_
  rintro e w1 ⟨r1, rfl, hr1, hr1', hb1⟩
  have HB1 := Lib.hid (HBX.out.trans (hb1.mono (by simp)))
  have k4 : w1.cell? ⟨w.heap.size, 4, none⟩ = some (.slice M ms.length ma) := cell_keep hb1 (by simp)
  have k5 : w1.cell? ⟨w.heap.size, 5, none⟩ = some (.slice K kids.length kc) := cell_keep hb1 (by simp)
  have kl := cell_lt k4
  simp only at kl
  have HR1 := Lib.hid hr1'
  clear hb1 hr1' HCN
  by_cases g2 : r1 < 0
  · have hb := HB1.out
    go_wp2
    go_ret
    exact ⟨-1, rfl, by omega, .inl (by omega), hb⟩
  · go_wp2_with fail
    refine (szBools_any ms M ma r1 w1 lm (by omega) (by omega)).mono ?_
    rintro e w2 ⟨r2, rfl, hr2, hr2', hb2⟩
    have HB2 := Lib.hid (HB1.out.trans (hb2.mono HB1.out.size))
    replace k5 := cell_keep hb2 k5
    have kl := cell_lt k5
    simp only at kl
    have HR2 := Lib.hid hr2'
    clear hb2 hr2' k4
    by_cases g3 : r2 < 0
    · have hb := HB2.out
      go_wp2
      go_ret
      exact ⟨-1, rfl, by omega, .inl (by omega), hb⟩
    · have HCK := Lib.hid (szsKids_any HI.out kids K kc B0 r2 w2 (by omega) (HV.out.k.keep HB2.out) l4 HL5.out (by omega) (by omega))
      go_wp2_with fail
      refine HCK.out.mono ?_
      rintro e w3 ⟨r3, rfl, hr3, hr3', hb3⟩
      have hb : Below w.heap.size w w3 := HB2.out.trans (hb3.mono HB2.out.size)
      have HR3 := Lib.hid hr3'
      clear hb3 hr3' HCK k5 kl
      by_cases g4 : r3 < 0
      · go_wp2
        go_ret
        exact ⟨-1, rfl, by omega, .inl (by omega), hb⟩
      · have HS : Hid (LimS 1048576 (.mk k mn mx ns ms kids)) := by
          obtain ⟨_, q1, q2⟩ := HR3.out.resolve_left g4
          obtain ⟨_, q5⟩ := HR2.out.resolve_left (by omega)
          obtain ⟨_, q3, q4⟩ := HR1.out.resolve_left (by omega)
          exact .mk k mn mx ns ms kids q3 q4 q5 q1 q2 LB.out
        go_wp2
        go_ret
        exact ⟨r3, rfl, hr3, .inr ⟨by omega, HS.out⟩, hb⟩

theorem szs_all : ∀ n, SzSP n
  | 0 => by intro k mn mx ns ms kids A M K ca ma kc B0 left w hh; omega
  | n + 1 => szsStep (szs_all n)

end Go.Proofs.YtkhcappjhefkjaaGreatDoor

