/- Rules in memory, and how large they are. -/
import Derived.Test.YtjfohdalpjoaeaaDoorP1
namespace Go.Proofs.YtjfohdalpjoaeaaDoor
open Go.RowKit
set_option linter.unusedVariables false

structure Ru where
  name : ByteArray
  p : Pt

/-- One rule in eight cells from a place on. -/
structure RuAt (w : World) (B0 b off : Nat) (r : Ru) : Prop where
  n : w.cell? ⟨b, off, none⟩ = some (.string r.name)
  p : PtAt w B0 b (off + 1) r.p
/-- Rules, one behind the other. -/
def Rus (w : World) (B0 : Nat) (a : Option Addr) (rs : List Ru) : Prop := rs = [] ∨ ∃ b off, a = some ⟨b, off, none⟩ ∧ B0 ≤ b ∧ ∀ i (h : i < rs.length), RuAt w B0 b (off + i * 8) rs[i]

theorem Rus.keep {w w' : World} {B0 : Nat} {a : Option Addr} {rs : List Ru} (h : Rus w B0 a rs) (hb : Below w.heap.size w w') : Rus w' B0 a rs := by
  rcases h with h | ⟨b, off, e, hb0, h⟩
  · exact .inl h
  · exact .inr ⟨b, off, e, hb0, fun i hi => ⟨cell_keep hb (h i hi).n, (h i hi).p.keep hb⟩⟩
theorem Rus.at_ {w : World} {B0 : Nat} {a : Option Addr} {rs : List Ru} (h : Rus w B0 a rs) {i : Nat} (hi : i < rs.length) : ∃ b off, a = some ⟨b, off, none⟩ ∧ RuAt w B0 b (off + i * 8) rs[i] := by
  rcases h with h | ⟨b, off, e, hb0, h⟩
  · subst h; simp at hi
  · exact ⟨b, off, e, h i hi⟩

/-- What is asked of rules that came in, and of those that are small. -/
def LimR (M : Nat) (rs : List Ru) : Prop := ∀ r ∈ rs, r.name.size ≤ M ∧ Lim M r.p

set_option maxRecDepth 100000 in
set_option maxHeartbeats 1000000 in
theorem szRule_any (nm : ByteArray) (k : Int) (t : ByteArray) (lo hi : List Int) (kids : List Pt) (mn mx : Int) (A B K : Option Addr) (ca cb kc B0 : Nat) (left : Int) (w : World) (hv : PtV w B0 lo hi kids A B K) (hn : nm.size ≤ maxLen) (hl : Lim maxLen (.mk k t lo hi kids mn mx)) (h0 : 0 ≤ left) (h1 : left ≤ 1048576) :
    Calls Tryd.prog 42 #[.agg #[.string nm, .int .i64 k, .string t, .slice A lo.length ca, .slice B hi.length cb, .slice K kids.length kc, .int .i64 mn, .int .i64 mx], .int .i64 left] w (SzPost (nm.size ≤ 1048576 ∧ Lim 1048576 (.mk k t lo hi kids mn mx)) w) := by
  have HV := Lib.hid hv
  have HL := Lib.hid hl
  unfold maxLen at hn
  clear hv hl
  by_cases g1 : left - (nm.size : Int) < 0
  · go_enter Tryd.func42, Tryd.ntmps42
    go_wp2
    go_ret
    exact ⟨-1, rfl, by omega, .inl (by omega), below_box _⟩
  · have HC := Lib.hid (sz_all (htL kids + 1) k t lo hi kids mn mx A B K ca cb kc B0 (left - nm.size) (w.alloc (.cells #[.string nm, .int .i64 k, .string t, .slice A lo.length ca, .slice B hi.length cb, .slice K kids.length kc, .int .i64 mn, .int .i64 mx] 83)) (Nat.le_refl _) (HV.out.keep (below_box _)) HL.out (by omega) (by omega))
    have hnm : nm.size ≤ 1048576 := by omega
    have HN := Lib.hid hnm
    clear hnm
    go_enter Tryd.func42, Tryd.ntmps42
    go_wp2_with fail
    refine HC.out.mono ?_
    rintro e w1 ⟨r, rfl, hr1, hr, hb1⟩
    have hb : Below w.heap.size w w1 := (below_box _).trans (hb1.mono (by simp))
    have HR := Lib.hid hr
    clear hr hb1
    by_cases g2 : r < 0
    · go_wp2
      go_ret
      exact ⟨-1, rfl, by omega, .inl (by omega), hb⟩
    · go_wp2
      go_ret
      exact ⟨r, rfl, hr1, .inr ⟨by omega, HN.out, (HR.out.resolve_left (by omega)).2⟩, hb⟩

set_option maxRecDepth 100000 in
set_option maxHeartbeats 1000000 in
theorem szRules_any (rs : List Ru) (a : Option Addr) (c B0 : Nat) (left : Int) (w : World) (hr : Rus w B0 a rs) (hm : rs.length ≤ maxLen) (hl : LimR maxLen rs) (h0 : 0 ≤ left) (h1 : left ≤ 1048576) :
    Calls Tryd.prog 24 #[.slice a rs.length c, .int .i64 left] w (SzPost (rs.length ≤ 1048576 ∧ LimR 1048576 rs) w) := by
  have HR := Lib.hid hr
  have HL := Lib.hid hl
  unfold maxLen at hm
  clear hr hl
  by_cases hneg : left - (rs.length : Int) < 0
  · go_enter Tryd.func24, Tryd.ntmps24
    go_wp2
    go_ret
    exact ⟨-1, rfl, by omega, .inl (by omega), Below.refl _ _⟩
  · have hkl : rs.length ≤ 1048576 := by omega
    go_enter Tryd.func24, Tryd.ntmps24
    go_wp2
    go_loopw [1, 5] (fun q i wr => ∃ j : Nat, j ≤ rs.length ∧ i = .int .i64 j ∧ (∃ z : Int, q = .int .i64 z ∧ 0 ≤ z ∧ z ≤ 1048576) ∧ Hid (∀ u (h : u < rs.length), u < j → rs[u].name.size ≤ 1048576 ∧ Lim 1048576 rs[u].p) ∧ Below w.heap.size w wr) (fun _ i _ => rs.length - (intOf i).toNat)
    case atStart => exact ⟨0, Nat.zero_le _, rfl, ⟨_, rfl, by omega, by omega⟩, fun u _ hu => by omega, Below.refl _ _⟩
    case round =>
      obtain ⟨j, hj, rfl, ⟨z, rfl, hz0, hz1⟩, HU, hb⟩ := hrel
      by_cases hlt : j < rs.length
      · have hlt' : (j : Int) < (rs.length : Int) := by omega
        obtain ⟨b, off, rfl, hp⟩ := (HR.out.keep hb).at_ hlt
        have hmem := List.getElem_mem hlt
        have hlim := HL.out _ hmem
        have HUJ : Hid (rs[j].name.size ≤ 1048576 ∧ Lim 1048576 rs[j].p → ∀ u (h : u < rs.length), u < j + 1 → rs[u].name.size ≤ 1048576 ∧ Lim 1048576 rs[u].p) := fun h1 u hu huj => by
          rcases Nat.lt_succ_iff_lt_or_eq.1 huj with h3 | h3
          · exact HU.out u hu h3
          · subst h3; exact h1
        clear hmem
        generalize rs[j] = p at *
        obtain ⟨nm, pk, pt, plo, phi, pkids, pmn, pmx⟩ := p
        obtain ⟨n0, hp⟩ := hp
        obtain ⟨PA, PB, PK, pa, pb, pc, hc, hv⟩ := hp.open_
        obtain ⟨c0, c1, c2, c3, c4, c5, c6⟩ := hc
        simp only at n0 hlim HUJ
        simp only [Nat.add_assoc, Nat.reduceAdd] at c0 c1 c2 c3 c4 c5 c6
        have HC := Lib.hid (szRule_any nm pk pt plo phi pkids pmn pmx PA PB PK pa pb pc B0 z wr hv hlim.1 hlim.2 hz0 hz1)
        clear hp hv hlim
        simp only [← Nat.add_assoc] at c0 c1 c2 c3 c4 c5 c6
        go_wp2_with fail
        refine HC.out.mono ?_
        rintro e w2 ⟨r, rfl, hr1, hr, hb2⟩
        have hb' : Below w.heap.size w w2 := hb.trans (hb2.mono hb.size)
        have HRR := Lib.hid hr
        clear hb hb2 HC c0 c1 c2 c3 c4 c5 c6 hr n0
        by_cases hr0 : r < 0
        · go_wp2
          go_ret
          exact ⟨-1, rfl, by omega, .inl (by omega), hb'⟩
        · have HU2 := Lib.hid (HUJ.out (HRR.out.resolve_left hr0).2)
          go_wp2
          go_roundw
          case rel => exact ⟨j + 1, by omega, by go_num, ⟨r, rfl, by omega, by omega⟩, HU2, hb'⟩
          case measure => simp [intOf]; omega
      · have hlt' : ¬ (j : Int) < (rs.length : Int) := by omega
        go_wp2
        go_ret
        refine ⟨z, rfl, hz1, .inr ⟨hz0, fun p hp => ?_⟩, hb⟩
        obtain ⟨u, hu, rfl⟩ := List.getElem_of_mem hp
        exact HU.out u hu (by omega)

set_option maxRecDepth 100000 in
set_option maxHeartbeats 1000000 in
theorem szGram_any (rs : List Ru) (a : Option Addr) (c B0 : Nat) (left : Int) (w : World) (hr : Rus w B0 a rs) (hm : rs.length ≤ maxLen) (hl : LimR maxLen rs) (h0 : 0 ≤ left) (h1 : left ≤ 1048576) :
    Calls Tryd.prog 9 #[.agg #[.slice a rs.length c], .int .i64 left] w (SzPost (rs.length ≤ 1048576 ∧ LimR 1048576 rs) w) := by
  have HR := Lib.hid hr
  have HL := Lib.hid hl
  clear hr hl
  have HC := Lib.hid (szRules_any rs a c B0 left (w.alloc (.cells #[.slice a rs.length c] 38)) (HR.out.keep (below_box _)) hm HL.out h0 h1)
  go_enter Tryd.func9, Tryd.ntmps9
  go_wp2_with fail
  refine HC.out.mono ?_
  rintro e w1 ⟨r, rfl, hr1, hr, hb1⟩
  have hb : Below w.heap.size w w1 := (below_box _).trans (hb1.mono (by simp))
  have HRR := Lib.hid hr
  clear hr hb1
  by_cases g2 : r < 0
  · go_wp2
    go_ret
    exact ⟨-1, rfl, by omega, .inl (by omega), hb⟩
  · go_wp2
    go_ret
    exact ⟨r, rfl, hr1, HRR.out, hb⟩

end Go.Proofs.YtjfohdalpjoaeaaDoor
