/- Grammars copied; parts, rules and grammars compared with the same. -/
import Derived.Test.YtjfohdalpjoaeaaDoorP6
namespace Go.Proofs.YtjfohdalpjoaeaaDoor
open Go.RowKit
set_option linter.unusedVariables false

/-- A new grammar. -/
def NewGr (rs : List Ru) (w : World) (e : Ending) (w' : World) : Prop :=
  ∃ A, e = .returned (.agg #[.slice A rs.length rs.length]) ∧ Rus w' w.heap.size A rs ∧ Below w.heap.size w w'
theorem Rus.mv {w w' : World} {B0 : Nat} {a : Option Addr} {rs : List Ru} (h : Rus w B0 a rs) (hu : Upon B0 w w') : Rus w' B0 a rs := by
  rcases h with h | ⟨b, off, e, hb0, h⟩
  · exact .inl h
  · exact .inr ⟨b, off, e, hb0, fun i hi => ⟨hu.cell (h i hi).n hb0, (h i hi).p.mv hu⟩⟩
theorem Rus.low {w : World} {B0 B1 : Nat} {a : Option Addr} {rs : List Ru} (h : Rus w B0 a rs) (hB : B1 ≤ B0) : Rus w B1 a rs := by
  rcases h with h | ⟨b, off, e, hb0, h⟩
  · exact .inl h
  · exact .inr ⟨b, off, e, by omega, fun i hi => ⟨(h i hi).n, (h i hi).p.low hB⟩⟩

set_option maxRecDepth 100000 in
set_option maxHeartbeats 1000000 in
theorem toGram_any (rs : List Ru) (a : Option Addr) (c B0 : Nat) (w : World) (hr : Rus w B0 a rs) (hm : rs.length ≤ 1048576) (hl : LimR 1048576 rs) :
    Calls Tryd.prog 10 #[.agg #[.slice a rs.length c]] w (NewGr rs w) := by
  have HR := Lib.hid hr
  have HL := Lib.hid hl
  clear hr hl
  have O2 : Own (((w.alloc (.cells #[.slice a rs.length c] 38)).alloc (.cells #[.slice none 0 0] 25)).alloc (.cells #[.slice none 0 0] 25)) (w.heap.size + 1) 25 [.slice none 0 0] := by
    have h := Own.new (w.alloc (.cells #[.slice a rs.length c] 38)) 25 #[.slice none 0 0]
    rw [World.size_alloc] at h
    exact h.alloc _
  have O3 : Own (((w.alloc (.cells #[.slice a rs.length c] 38)).alloc (.cells #[.slice none 0 0] 25)).alloc (.cells #[.slice none 0 0] 25)) (w.heap.size + 2) 25 [.slice none 0 0] := by
    have h := Own.new ((w.alloc (.cells #[.slice a rs.length c] 38)).alloc (.cells #[.slice none 0 0] 25)) 25 #[.slice none 0 0]
    rw [World.size_alloc, World.size_alloc] at h
    exact h
  have hbW : Below w.heap.size w (((w.alloc (.cells #[.slice a rs.length c] 38)).alloc (.cells #[.slice none 0 0] 25)).alloc (.cells #[.slice none 0 0] 25)) := ((below_box _).alloc (by simp) _).alloc (by simp; omega) _
  go_enter Tryd.func10, Tryd.ntmps10
  go_wp2_with fail
  generalize ((w.alloc (.cells #[.slice a rs.length c] 38)).alloc (.cells #[.slice none 0 0] 25)).alloc (.cells #[.slice none 0 0] 25) = W0 at *
  have hW0 := O3.lt
  refine (toRules_any rs a c B0 W0 (HR.out.keep hbW) hm HL.out).mono ?_
  rintro e w3 ⟨A3, rfl, hr3, hb3⟩
  have HB3 := Lib.hid (hbW.trans (hb3.mono hbW.size))
  have HV3 := Lib.hid (hr3.low (show w.heap.size + 3 ≤ W0.heap.size by omega))
  replace O2 := O2.keep hb3
  replace O3 := O3.keep hb3
  have s0 : w3.cell? ⟨w.heap.size + 2, 0, none⟩ = some (.slice none 0 0) := by rw [O3.cell]; rfl
  have r0 : w3.cell? ⟨w.heap.size + 1, 0, none⟩ = some (.slice none 0 0) := by rw [O2.cell]; rfl
  have f0 := O3.frozen 0
  have q0 := O2.frozen 0
  have z1 := O3.lt
  have z2 := O2.lt
  clear hr3 hb3 hbW O2 O3
  go_wp2
  refine bodyPost_ret (v := .agg #[.slice A3 rs.length rs.length]) (by simp [results, Tryd.results10, go_sem, r0]) rfl ⟨A3, rfl, ?_, ?_⟩
  · exact ((HV3.out.mv (.set_ (by simp only; omega) _)).mv (.set_ (by simp only; omega) _)).low (by omega)
  · exact (HB3.out.setCell (by simp only; omega) _).setCell (by simp only; omega) _

set_option maxRecDepth 100000 in
set_option maxHeartbeats 1000000 in
theorem eqIntS_same (a a' : Option Addr) (c c' : Nat) (zs : List Int) (w : World) (hr : Row w a (ints zs)) (hr' : Row w a' (ints zs)) (hm : zs.length ≤ 1048576) :
    Calls Tryd.prog 69 #[.slice a zs.length c, .slice a' zs.length c'] w fun e w' => e = .returned (.bool true) ∧ Below w.heap.size w w' := by
  have HR := Lib.hid hr
  have HR' := Lib.hid hr'
  clear hr hr'
  have hne0 : ((zs.length : Int) != (zs.length : Int)) = false := by simp
  go_enter Tryd.func69, Tryd.ntmps69
  go_wp2
  go_loopw [5] (fun i wr => ∃ k : Nat, k ≤ zs.length ∧ i = .int .i64 k ∧ Below w.heap.size w wr) (fun i _ => zs.length - (intOf i).toNat)
  case atStart => exact ⟨0, Nat.zero_le _, rfl, Below.refl _ _⟩
  case round =>
    obtain ⟨k, hk, rfl, hb⟩ := hrel
    by_cases hlt : k < zs.length
    · obtain ⟨b, off, rfl, hc⟩ := (HR.out.keep hb).int hlt
      obtain ⟨b', off', rfl, hc'⟩ := (HR'.out.keep hb).int hlt
      have hk1 : (k : Int) < (zs.length : Int) := by omega
      generalize zs[k] = z at *
      have hne : (z == z) = true := by simp
      have hne2 : (z != z) = false := by simp
      go_wp2
      go_quiet (fail)
      go_wp2
      go_roundw
      case rel => exact ⟨k + 1, by omega, by go_num, below_drewN hb _⟩
      case measure => simp [intOf]; omega
    · have hk1 : ¬ (k : Int) < (zs.length : Int) := by omega
      go_wp2
      go_ret
      exact ⟨rfl, hb⟩


/-- A part is compared with the same. -/
def EqP (n : Nat) : Prop := ∀ (k : Int) (t : ByteArray) (lo hi : List Int) (kids : List Pt) (mn mx : Int) (A B K A' B' K' : Option Addr) (ca cb kc ca' cb' kc' B0 B1 : Nat) (w : World), htL kids + 1 ≤ n → PtV w B0 lo hi kids A B K → PtV w B1 lo hi kids A' B' K' → Lim 1048576 (.mk k t lo hi kids mn mx) →
  Calls Tryd.prog 59 #[.agg #[.int .i64 k, .string t, .slice A lo.length ca, .slice B hi.length cb, .slice K kids.length kc, .int .i64 mn, .int .i64 mx], .agg #[.int .i64 k, .string t, .slice A' lo.length ca', .slice B' hi.length cb', .slice K' kids.length kc', .int .i64 mn, .int .i64 mx]] w (fun e w' => e = .returned (.bool true) ∧ Below w.heap.size w w')

set_option maxRecDepth 100000 in
set_option maxHeartbeats 1000000 in
theorem eqKids {n : Nat} (IH : EqP n) (kids : List Pt) (K K' : Option Addr) (kc kc' B0 B1 : Nat) (w : World) (hh : htL kids ≤ n) (hk : Pts w B0 K kids) (hk' : Pts w B1 K' kids) (hm : kids.length ≤ 1048576) (hl : ∀ p ∈ kids, Lim 1048576 p) :
    Calls Tryd.prog 70 #[.slice K kids.length kc, .slice K' kids.length kc'] w (fun e w' => e = .returned (.bool true) ∧ Below w.heap.size w w') := by
  have HI := Lib.hid IH
  have HK := Lib.hid hk
  have HK' := Lib.hid hk'
  have HL := Lib.hid hl
  have HH := Lib.hid hh
  clear IH hk hk' hl hh
  have hne : ((kids.length : Int) != (kids.length : Int)) = false := by simp
  go_enter Tryd.func70, Tryd.ntmps70
  go_wp2
  go_loopw [5] (fun i wr => ∃ j : Nat, j ≤ kids.length ∧ i = .int .i64 j ∧ Below w.heap.size w wr) (fun i _ => kids.length - (intOf i).toNat)
  case atStart => exact ⟨0, Nat.zero_le _, rfl, Below.refl _ _⟩
  case round =>
    obtain ⟨j, hj, rfl, hb⟩ := hrel
    by_cases hlt : j < kids.length
    · have hlt' : (j : Int) < (kids.length : Int) := by omega
      obtain ⟨b, off, rfl, hp⟩ := (HK.out.keep hb).at_ hlt
      obtain ⟨b', off', rfl, hp'⟩ := (HK'.out.keep hb).at_ hlt
      have hmem := List.getElem_mem hlt
      have hlim := HL.out _ hmem
      have hht := ht_mem hmem
      clear hmem
      generalize kids[j] = p at *
      obtain ⟨pk, pt, plo, phi, pkids, pmn, pmx⟩ := p
      rw [ht_mk] at hht
      obtain ⟨PA, PB, PK, pa, pb, pc, hc, hv⟩ := hp.open_
      obtain ⟨c0, c1, c2, c3, c4, c5, c6⟩ := hc
      obtain ⟨QA, QB, QK, qa, qb, qc, hc', hv'⟩ := hp'.open_
      obtain ⟨d0, d1, d2, d3, d4, d5, d6⟩ := hc'
      have HC := Lib.hid (HI.out pk pt plo phi pkids pmn pmx PA PB PK QA QB QK pa pb pc qa qb qc B0 B1 wr.drew (by have := HH.out; omega) (hv.keep (Below.refl _ _).drew) (hv'.keep (Below.refl _ _).drew) hlim)
      clear hp hp' hv hv' hlim hht
      go_wp2
      go_region_held3 (fun X => X.cell? ⟨b, off + j * 7, none⟩ = some (.int .i64 pk) ∧ X.cell? ⟨b, off + j * 7 + 1, none⟩ = some (.string pt) ∧ X.cell? ⟨b, off + j * 7 + 2, none⟩ = some (.slice PA plo.length pa) ∧ X.cell? ⟨b, off + j * 7 + 3, none⟩ = some (.slice PB phi.length pb) ∧ X.cell? ⟨b, off + j * 7 + 4, none⟩ = some (.slice PK pkids.length pc) ∧ X.cell? ⟨b, off + j * 7 + 5, none⟩ = some (.int .i64 pmn) ∧ X.cell? ⟨b, off + j * 7 + 6, none⟩ = some (.int .i64 pmx) ∧ X.cell? ⟨b', off' + j * 7, none⟩ = some (.int .i64 pk) ∧ X.cell? ⟨b', off' + j * 7 + 1, none⟩ = some (.string pt) ∧ X.cell? ⟨b', off' + j * 7 + 2, none⟩ = some (.slice QA plo.length qa) ∧ X.cell? ⟨b', off' + j * 7 + 3, none⟩ = some (.slice QB phi.length qb) ∧ X.cell? ⟨b', off' + j * 7 + 4, none⟩ = some (.slice QK pkids.length qc) ∧ X.cell? ⟨b', off' + j * 7 + 5, none⟩ = some (.int .i64 pmn) ∧ X.cell? ⟨b', off' + j * 7 + 6, none⟩ = some (.int .i64 pmx))
        (first | exact ⟨cell_keep hb2 c0, cell_keep hb2 c1, cell_keep hb2 c2, cell_keep hb2 c3, cell_keep hb2 c4, cell_keep hb2 c5, cell_keep hb2 c6, cell_keep hb2 d0, cell_keep hb2 d1, cell_keep hb2 d2, cell_keep hb2 d3, cell_keep hb2 d4, cell_keep hb2 d5, cell_keep hb2 d6⟩ | exact ⟨c0, c1, c2, c3, c4, c5, c6, d0, d1, d2, d3, d4, d5, d6⟩)
        (first | (go_at_call 59; refine HC.out.mono ?_; rintro e w2 ⟨rfl, hb2⟩))
      have hb' : Below w.heap.size w w2 := hb.drew.trans (hb2.mono hb.drew.size)
      clear hb2 HC c0 c1 c2 c3 c4 c5 c6 d0 d1 d2 d3 d4 d5 d6 hb
      go_wp2
      go_roundw
      case rel => exact ⟨j + 1, by omega, by go_num, hb'⟩
      case measure => simp [intOf]; omega
    · have hlt' : ¬ (j : Int) < (kids.length : Int) := by omega
      go_wp2
      go_ret
      exact ⟨rfl, hb⟩

set_option maxRecDepth 100000 in
set_option maxHeartbeats 1000000 in
theorem eqStep {n : Nat} (IH : EqP n) : EqP (n + 1) := by
  intro k t lo hi kids mn mx A B K A' B' K' ca cb kc ca' cb' kc' B0 B1 w hh hv hv' hl
  have HI := Lib.hid IH
  have HV := Lib.hid hv
  have HV' := Lib.hid hv'
  cases hl with
  | mk _ _ _ _ _ _ _ l1 l2 l3 l4 l5 =>
  have HL5 := Lib.hid l5
  clear IH hv hv' l5
  have e0 : (k != k) = false := by simp
  have e1 : (mn != mn) = false := by simp
  have e2 : (mx != mx) = false := by simp
  have e3 : (t.toList == t.toList) = true := by simp
  have e4 : (t.toList != t.toList) = false := by simp
  have O1 : Hid (Own ((w.alloc (.cells #[.int .i64 k, .string t, .slice A lo.length ca, .slice B hi.length cb, .slice K kids.length kc, .int .i64 mn, .int .i64 mx] 31)).alloc (.cells #[.int .i64 k, .string t, .slice A' lo.length ca', .slice B' hi.length cb', .slice K' kids.length kc', .int .i64 mn, .int .i64 mx] 31)) w.heap.size 31 [.int .i64 k, .string t, .slice A lo.length ca, .slice B hi.length cb, .slice K kids.length kc, .int .i64 mn, .int .i64 mx]) := (Own.new w 31 #[.int .i64 k, .string t, .slice A lo.length ca, .slice B hi.length cb, .slice K kids.length kc, .int .i64 mn, .int .i64 mx]).alloc _
  have O2 : Hid (Own ((w.alloc (.cells #[.int .i64 k, .string t, .slice A lo.length ca, .slice B hi.length cb, .slice K kids.length kc, .int .i64 mn, .int .i64 mx] 31)).alloc (.cells #[.int .i64 k, .string t, .slice A' lo.length ca', .slice B' hi.length cb', .slice K' kids.length kc', .int .i64 mn, .int .i64 mx] 31)) (w.heap.size + 1) 31 [.int .i64 k, .string t, .slice A' lo.length ca', .slice B' hi.length cb', .slice K' kids.length kc', .int .i64 mn, .int .i64 mx]) := by
    have h := Own.new (w.alloc (.cells #[.int .i64 k, .string t, .slice A lo.length ca, .slice B hi.length cb, .slice K kids.length kc, .int .i64 mn, .int .i64 mx] 31)) 31 #[.int .i64 k, .string t, .slice A' lo.length ca', .slice B' hi.length cb', .slice K' kids.length kc', .int .i64 mn, .int .i64 mx]
    rw [World.size_alloc] at h
    exact h
  have hbW : Below w.heap.size w ((w.alloc (.cells #[.int .i64 k, .string t, .slice A lo.length ca, .slice B hi.length cb, .slice K kids.length kc, .int .i64 mn, .int .i64 mx] 31)).alloc (.cells #[.int .i64 k, .string t, .slice A' lo.length ca', .slice B' hi.length cb', .slice K' kids.length kc', .int .i64 mn, .int .i64 mx] 31)) := (below_box _).alloc (by simp) _
  go_enter Tryd.func59, Tryd.ntmps59
  go_wp2_with fail
  generalize (w.alloc (.cells #[.int .i64 k, .string t, .slice A lo.length ca, .slice B hi.length cb, .slice K kids.length kc, .int .i64 mn, .int .i64 mx] 31)).alloc (.cells #[.int .i64 k, .string t, .slice A' lo.length ca', .slice B' hi.length cb', .slice K' kids.length kc', .int .i64 mn, .int .i64 mx] 31) = W0 at *
  refine (eqIntS_same A A' ca ca' lo W0 (HV.out.a.keep hbW) (HV'.out.a.keep hbW) l2).mono ?_
  rintro e w1 ⟨rfl, hb1⟩
  have hB1 : Below w.heap.size w w1 := hbW.trans (hb1.mono hbW.size)
  replace O1 := Lib.hid (O1.out.keep hb1)
  replace O2 := Lib.hid (O2.out.keep hb1)
  clear hb1 hbW
  have x3 : w1.cell? ⟨w.heap.size, 3, none⟩ = some (.slice B hi.length cb) := by rw [O1.out.cell]; rfl
  have y3 : w1.cell? ⟨w.heap.size + 1, 3, none⟩ = some (.slice B' hi.length cb') := by rw [O2.out.cell]; rfl
  have x4 : w1.cell? ⟨w.heap.size, 4, none⟩ = some (.slice K kids.length kc) := by rw [O1.out.cell]; rfl
  have y4 : w1.cell? ⟨w.heap.size + 1, 4, none⟩ = some (.slice K' kids.length kc') := by rw [O2.out.cell]; rfl
  have x5 : w1.cell? ⟨w.heap.size, 5, none⟩ = some (.int .i64 mn) := by rw [O1.out.cell]; rfl
  have y5 : w1.cell? ⟨w.heap.size + 1, 5, none⟩ = some (.int .i64 mn) := by rw [O2.out.cell]; rfl
  have x6 : w1.cell? ⟨w.heap.size, 6, none⟩ = some (.int .i64 mx) := by rw [O1.out.cell]; rfl
  have y6 : w1.cell? ⟨w.heap.size + 1, 6, none⟩ = some (.int .i64 mx) := by rw [O2.out.cell]; rfl
  have z1 := O1.out.lt
  have z2 := O2.out.lt
  go_wp2_with fail
  refine (eqIntS_same B B' cb cb' hi w1 (HV.out.b.keep hB1) (HV'.out.b.keep hB1) l3).mono ?_
  rintro e w2 ⟨rfl, hb2⟩
  have hB2 : Below w.heap.size w w2 := hB1.trans (hb2.mono hB1.size)
  replace O1 := Lib.hid (O1.out.keep hb2)
  replace O2 := Lib.hid (O2.out.keep hb2)
  clear hb2 hB1 x3 x4 x5 x6 y3 y4 y5 y6 z1 z2
  have x3 : w2.cell? ⟨w.heap.size, 3, none⟩ = some (.slice B hi.length cb) := by rw [O1.out.cell]; rfl
  have y3 : w2.cell? ⟨w.heap.size + 1, 3, none⟩ = some (.slice B' hi.length cb') := by rw [O2.out.cell]; rfl
  have x4 : w2.cell? ⟨w.heap.size, 4, none⟩ = some (.slice K kids.length kc) := by rw [O1.out.cell]; rfl
  have y4 : w2.cell? ⟨w.heap.size + 1, 4, none⟩ = some (.slice K' kids.length kc') := by rw [O2.out.cell]; rfl
  have x5 : w2.cell? ⟨w.heap.size, 5, none⟩ = some (.int .i64 mn) := by rw [O1.out.cell]; rfl
  have y5 : w2.cell? ⟨w.heap.size + 1, 5, none⟩ = some (.int .i64 mn) := by rw [O2.out.cell]; rfl
  have x6 : w2.cell? ⟨w.heap.size, 6, none⟩ = some (.int .i64 mx) := by rw [O1.out.cell]; rfl
  have y6 : w2.cell? ⟨w.heap.size + 1, 6, none⟩ = some (.int .i64 mx) := by rw [O2.out.cell]; rfl
  have z1 := O1.out.lt
  have z2 := O2.out.lt
  go_wp2_with fail
  refine (eqKids HI.out kids K K' kc kc' B0 B1 w2 (by omega) (HV.out.k.keep hB2) (HV'.out.k.keep hB2) l4 HL5.out).mono ?_
  rintro e w3 ⟨rfl, hb3⟩
  have hB3 : Below w.heap.size w w3 := hB2.trans (hb3.mono hB2.size)
  replace O1 := Lib.hid (O1.out.keep hb3)
  replace O2 := Lib.hid (O2.out.keep hb3)
  clear hb3 hB2 x3 x4 x5 x6 y3 y4 y5 y6 z1 z2
  have x3 : w3.cell? ⟨w.heap.size, 3, none⟩ = some (.slice B hi.length cb) := by rw [O1.out.cell]; rfl
  have y3 : w3.cell? ⟨w.heap.size + 1, 3, none⟩ = some (.slice B' hi.length cb') := by rw [O2.out.cell]; rfl
  have x4 : w3.cell? ⟨w.heap.size, 4, none⟩ = some (.slice K kids.length kc) := by rw [O1.out.cell]; rfl
  have y4 : w3.cell? ⟨w.heap.size + 1, 4, none⟩ = some (.slice K' kids.length kc') := by rw [O2.out.cell]; rfl
  have x5 : w3.cell? ⟨w.heap.size, 5, none⟩ = some (.int .i64 mn) := by rw [O1.out.cell]; rfl
  have y5 : w3.cell? ⟨w.heap.size + 1, 5, none⟩ = some (.int .i64 mn) := by rw [O2.out.cell]; rfl
  have x6 : w3.cell? ⟨w.heap.size, 6, none⟩ = some (.int .i64 mx) := by rw [O1.out.cell]; rfl
  have y6 : w3.cell? ⟨w.heap.size + 1, 6, none⟩ = some (.int .i64 mx) := by rw [O2.out.cell]; rfl
  have z1 := O1.out.lt
  have z2 := O2.out.lt
  go_wp2
  go_ret
  exact ⟨rfl, hB3⟩

theorem eq_all : ∀ n, EqP n
  | 0 => by intro k t lo hi kids mn mx A B K A' B' K' ca cb kc ca' cb' kc' B0 B1 w hh; omega
  | n + 1 => eqStep (eq_all n)

set_option maxRecDepth 100000 in
set_option maxHeartbeats 1000000 in
theorem eqRule_any (nm : ByteArray) (k : Int) (t : ByteArray) (lo hi : List Int) (kids : List Pt) (mn mx : Int) (A B K A' B' K' : Option Addr) (ca cb kc ca' cb' kc' B0 B1 : Nat) (w : World) (hv : PtV w B0 lo hi kids A B K) (hv' : PtV w B1 lo hi kids A' B' K') (hl : Lim 1048576 (.mk k t lo hi kids mn mx)) :
    Calls Tryd.prog 44 #[.agg #[.string nm, .int .i64 k, .string t, .slice A lo.length ca, .slice B hi.length cb, .slice K kids.length kc, .int .i64 mn, .int .i64 mx], .agg #[.string nm, .int .i64 k, .string t, .slice A' lo.length ca', .slice B' hi.length cb', .slice K' kids.length kc', .int .i64 mn, .int .i64 mx]] w (fun e w' => e = .returned (.bool true) ∧ Below w.heap.size w w') := by
  have HV := Lib.hid hv
  have HV' := Lib.hid hv'
  have HL := Lib.hid hl
  clear hv hv' hl
  have e3 : (nm.toList == nm.toList) = true := by simp
  have e4 : (nm.toList != nm.toList) = false := by simp
  have hbW : Below w.heap.size w ((w.alloc (.cells #[.string nm, .int .i64 k, .string t, .slice A lo.length ca, .slice B hi.length cb, .slice K kids.length kc, .int .i64 mn, .int .i64 mx] 33)).alloc (.cells #[.string nm, .int .i64 k, .string t, .slice A' lo.length ca', .slice B' hi.length cb', .slice K' kids.length kc', .int .i64 mn, .int .i64 mx] 33)) := (below_box _).alloc (by simp) _
  have HC := Lib.hid (eq_all (htL kids + 1) k t lo hi kids mn mx A B K A' B' K' ca cb kc ca' cb' kc' B0 B1 ((w.alloc (.cells #[.string nm, .int .i64 k, .string t, .slice A lo.length ca, .slice B hi.length cb, .slice K kids.length kc, .int .i64 mn, .int .i64 mx] 33)).alloc (.cells #[.string nm, .int .i64 k, .string t, .slice A' lo.length ca', .slice B' hi.length cb', .slice K' kids.length kc', .int .i64 mn, .int .i64 mx] 33)) (Nat.le_refl _) (HV.out.keep hbW) (HV'.out.keep hbW) HL.out)
  go_enter Tryd.func44, Tryd.ntmps44
  go_wp2_with fail
  refine HC.out.mono ?_
  rintro e w1 ⟨rfl, hb1⟩
  have hB1 : Below w.heap.size w w1 := hbW.trans (hb1.mono hbW.size)
  clear hb1 hbW HC
  go_wp2
  go_ret
  exact ⟨rfl, hB1⟩

set_option maxRecDepth 100000 in
set_option maxHeartbeats 1000000 in
theorem eqRules_any (rs : List Ru) (a a' : Option Addr) (c c' B0 B1 : Nat) (w : World) (hr : Rus w B0 a rs) (hr' : Rus w B1 a' rs) (hm : rs.length ≤ 1048576) (hl : LimR 1048576 rs) :
    Calls Tryd.prog 26 #[.slice a rs.length c, .slice a' rs.length c'] w (fun e w' => e = .returned (.bool true) ∧ Below w.heap.size w w') := by
  have HR := Lib.hid hr
  have HR' := Lib.hid hr'
  have HL := Lib.hid hl
  clear hr hr' hl
  have hne : ((rs.length : Int) != (rs.length : Int)) = false := by simp
  go_enter Tryd.func26, Tryd.ntmps26
  go_wp2
  go_loopw [5] (fun i wr => ∃ j : Nat, j ≤ rs.length ∧ i = .int .i64 j ∧ Below w.heap.size w wr) (fun i _ => rs.length - (intOf i).toNat)
  case atStart => exact ⟨0, Nat.zero_le _, rfl, Below.refl _ _⟩
  case round =>
    obtain ⟨j, hj, rfl, hb⟩ := hrel
    by_cases hlt : j < rs.length
    · have hlt' : (j : Int) < (rs.length : Int) := by omega
      obtain ⟨b, off, rfl, hp⟩ := (HR.out.keep hb).at_ hlt
      obtain ⟨b', off', rfl, hp'⟩ := (HR'.out.keep hb).at_ hlt
      have hlim := HL.out _ (List.getElem_mem hlt)
      generalize rs[j] = p at *
      obtain ⟨nm, pk, pt, plo, phi, pkids, pmn, pmx⟩ := p
      obtain ⟨n0, hp⟩ := hp
      obtain ⟨m0, hp'⟩ := hp'
      simp only at n0 m0 hp hp' hlim
      obtain ⟨PA, PB, PK, pa, pb, pc, hc, hv⟩ := hp.open_
      obtain ⟨c0, c1, c2, c3, c4, c5, c6⟩ := hc
      obtain ⟨QA, QB, QK, qa, qb, qc, hc', hv'⟩ := hp'.open_
      obtain ⟨d0, d1, d2, d3, d4, d5, d6⟩ := hc'
      simp only [Nat.add_assoc, Nat.reduceAdd] at c0 c1 c2 c3 c4 c5 c6 d0 d1 d2 d3 d4 d5 d6
      simp only [← Nat.add_assoc] at c0 c1 c2 c3 c4 c5 c6 d0 d1 d2 d3 d4 d5 d6
      have HC := Lib.hid (eqRule_any nm pk pt plo phi pkids pmn pmx PA PB PK QA QB QK pa pb pc qa qb qc B0 B1 wr.drew (hv.keep (Below.refl _ _).drew) (hv'.keep (Below.refl _ _).drew) hlim.2)
      clear hp hp' hv hv' hlim
      go_wp2
      go_region_held3 (fun X => X.cell? ⟨b, off + j * 8, none⟩ = some (.string nm) ∧ X.cell? ⟨b, off + j * 8 + 1, none⟩ = some (.int .i64 pk) ∧ X.cell? ⟨b, off + j * 8 + 2, none⟩ = some (.string pt) ∧ X.cell? ⟨b, off + j * 8 + 3, none⟩ = some (.slice PA plo.length pa) ∧ X.cell? ⟨b, off + j * 8 + 4, none⟩ = some (.slice PB phi.length pb) ∧ X.cell? ⟨b, off + j * 8 + 5, none⟩ = some (.slice PK pkids.length pc) ∧ X.cell? ⟨b, off + j * 8 + 6, none⟩ = some (.int .i64 pmn) ∧ X.cell? ⟨b, off + j * 8 + 7, none⟩ = some (.int .i64 pmx) ∧ X.cell? ⟨b', off' + j * 8, none⟩ = some (.string nm) ∧ X.cell? ⟨b', off' + j * 8 + 1, none⟩ = some (.int .i64 pk) ∧ X.cell? ⟨b', off' + j * 8 + 2, none⟩ = some (.string pt) ∧ X.cell? ⟨b', off' + j * 8 + 3, none⟩ = some (.slice QA plo.length qa) ∧ X.cell? ⟨b', off' + j * 8 + 4, none⟩ = some (.slice QB phi.length qb) ∧ X.cell? ⟨b', off' + j * 8 + 5, none⟩ = some (.slice QK pkids.length qc) ∧ X.cell? ⟨b', off' + j * 8 + 6, none⟩ = some (.int .i64 pmn) ∧ X.cell? ⟨b', off' + j * 8 + 7, none⟩ = some (.int .i64 pmx))
        (first | exact ⟨cell_keep hb2 n0, cell_keep hb2 c0, cell_keep hb2 c1, cell_keep hb2 c2, cell_keep hb2 c3, cell_keep hb2 c4, cell_keep hb2 c5, cell_keep hb2 c6, cell_keep hb2 m0, cell_keep hb2 d0, cell_keep hb2 d1, cell_keep hb2 d2, cell_keep hb2 d3, cell_keep hb2 d4, cell_keep hb2 d5, cell_keep hb2 d6⟩ | exact ⟨n0, c0, c1, c2, c3, c4, c5, c6, m0, d0, d1, d2, d3, d4, d5, d6⟩)
        (first | (go_at_call 44; refine HC.out.mono ?_; rintro e w2 ⟨rfl, hb2⟩))
      have hb' : Below w.heap.size w w2 := hb.drew.trans (hb2.mono hb.drew.size)
      clear hb2 HC n0 c0 c1 c2 c3 c4 c5 c6 m0 d0 d1 d2 d3 d4 d5 d6 hb
      go_wp2
      go_roundw
      case rel => exact ⟨j + 1, by omega, by go_num, hb'⟩
      case measure => simp [intOf]; omega
    · have hlt' : ¬ (j : Int) < (rs.length : Int) := by omega
      go_wp2
      go_ret
      exact ⟨rfl, hb⟩

set_option maxRecDepth 100000 in
set_option maxHeartbeats 1000000 in
theorem eqGram_any (rs : List Ru) (a a' : Option Addr) (c c' B0 B1 : Nat) (w : World) (hr : Rus w B0 a rs) (hr' : Rus w B1 a' rs) (hm : rs.length ≤ 1048576) (hl : LimR 1048576 rs) :
    Calls Tryd.prog 11 #[.agg #[.slice a rs.length c], .agg #[.slice a' rs.length c']] w (fun e w' => e = .returned (.bool true) ∧ Below w.heap.size w w') := by
  have hbW : Below w.heap.size w ((w.alloc (.cells #[.slice a rs.length c] 25)).alloc (.cells #[.slice a' rs.length c'] 25)) := (below_box _).alloc (by simp) _
  have HC := Lib.hid (eqRules_any rs a a' c c' B0 B1 ((w.alloc (.cells #[.slice a rs.length c] 25)).alloc (.cells #[.slice a' rs.length c'] 25)) (hr.keep hbW) (hr'.keep hbW) hm hl)
  clear hr hr' hl
  go_enter Tryd.func11, Tryd.ntmps11
  go_wp2_with fail
  refine HC.out.mono ?_
  rintro e w1 ⟨rfl, hb1⟩
  have hB1 : Below w.heap.size w w1 := hbW.trans (hb1.mono hbW.size)
  clear hb1 hbW HC
  go_wp2
  go_ret
  exact ⟨rfl, hB1⟩

end Go.Proofs.YtjfohdalpjoaeaaDoor
