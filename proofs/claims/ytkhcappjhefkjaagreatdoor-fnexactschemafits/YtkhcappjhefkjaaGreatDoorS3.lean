/- Schemas compared with what is the same: eqBoolS, eqSchema, eqSchemaS. (written by gen_s3.py from J3) -/
import Derived.Test.YtkhcappjhefkjaaGreatDoorJ3
import Derived.Test.YtkhcappjhefkjaaGreatDoorS2
namespace Go.Proofs.YtkhcappjhefkjaaGreatDoor
open Go.RowKit
set_option linter.unusedVariables false

set_option maxHeartbeats 400000 in
theorem eqB_same (a a' : Option Addr) (c c' : Nat) (zs : List Bool) (w : World) (hr : Row w a (bols zs)) (hr' : Row w a' (bols zs)) (hm : zs.length ≤ 1048576) :
    Calls Tryz.prog 44 #[.slice a zs.length c, .slice a' zs.length c'] w fun e w' => e = .returned (.bool true) ∧ Below w.heap.size w w' := by
  have HR := Lib.hid hr
  have HR' := Lib.hid hr'
  clear hr hr'
  have hne0 : ((zs.length : Int) != (zs.length : Int)) = false := by simp
  go_enter Tryz.func44, Tryz.ntmps44
  go_wp2
  go_loopw [5] (fun i wr => ∃ k : Nat, k ≤ zs.length ∧ i = .int .i64 k ∧ Below w.heap.size w wr) (fun i _ => zs.length - (intOf i).toNat)
  case atStart => exact ⟨0, Nat.zero_le _, rfl, Below.refl _ _⟩
  case round =>
    obtain ⟨k, hk, rfl, hb⟩ := hrel
    by_cases hlt : k < zs.length
    · obtain ⟨b, off, rfl, hc⟩ := (HR.out.keep hb).bol hlt
      obtain ⟨b', off', rfl, hc'⟩ := (HR'.out.keep hb).bol hlt
      have hk1 : (k : Int) < (zs.length : Int) := by omega
      generalize zs[k] = z at *
      have hne : (z == z) = true := by simp
      have hne2 : (z != z) = false := by simp
      go_wp2
      go_quiet (fail)
      go_wp2
      go_roundw
      case rel => exact ⟨k + 1, by omega, by go_num, below_drewN hb _⟩
      case measure => simp [intOf]; omega
    · have hk1 : ¬ (k : Int) < (zs.length : Int) := by omega
      go_wp2
      go_ret
      exact ⟨rfl, hb⟩

/-- A value is compared with the same. -/
def EqSP (n : Nat) : Prop := ∀ (k mn mx : Int) (ns : List ByteArray) (ms : List Bool) (kids : List Sc) (A M K A' M' K' : Option Addr) (ca ma kc ca' ma' kc' B0 B1 : Nat) (w : World), htS kids + 1 ≤ n → ScV w B0 ns ms kids A M K → ScV w B1 ns ms kids A' M' K' → LimS 1048576 (.mk k mn mx ns ms kids) →
  Calls Tryz.prog 19 #[.agg #[.int .i64 k, .int .i64 mn, .int .i64 mx, .slice A ns.length ca, .slice M ms.length ma, .slice K kids.length kc], .agg #[.int .i64 k, .int .i64 mn, .int .i64 mx, .slice A' ns.length ca', .slice M' ms.length ma', .slice K' kids.length kc']] w (fun e w' => e = .returned (.bool true) ∧ Below w.heap.size w w')

set_option maxRecDepth 100000 in
set_option maxHeartbeats 1000000 in
theorem eqsKids {n : Nat} (IH : EqSP n) (kids : List Sc) (K K' : Option Addr) (kc kc' B0 B1 : Nat) (w : World) (hh : htS kids ≤ n) (hk : Scs w B0 K kids) (hk' : Scs w B1 K' kids) (hm : kids.length ≤ 1048576) (hl : ∀ p ∈ kids, LimS 1048576 p) :
    Calls Tryz.prog 45 #[.slice K kids.length kc, .slice K' kids.length kc'] w (fun e w' => e = .returned (.bool true) ∧ Below w.heap.size w w') := by
  have HI := Lib.hid IH
  have HK := Lib.hid hk
  have HK' := Lib.hid hk'
  have HL := Lib.hid hl
  have HH := Lib.hid hh
  clear IH hk hk' hl hh
  have hne : ((kids.length : Int) != (kids.length : Int)) = false := by simp
  go_enter Tryz.func45, Tryz.ntmps45
  go_wp2
  go_loopw [5] (fun i wr => ∃ j : Nat, j ≤ kids.length ∧ i = .int .i64 j ∧ Below w.heap.size w wr) (fun i _ => kids.length - (intOf i).toNat)
  case atStart => exact ⟨0, Nat.zero_le _, rfl, Below.refl _ _⟩
  case round =>
    obtain ⟨j, hj, rfl, hb⟩ := hrel
    by_cases hlt : j < kids.length
    · have hlt' : (j : Int) < (kids.length : Int) := by omega
      obtain ⟨b, off, rfl, hp⟩ := (HK.out.keep hb).at_ hlt
      obtain ⟨b', off', rfl, hp'⟩ := (HK'.out.keep hb).at_ hlt
      have hmem := List.getElem_mem hlt
      have hlim := HL.out _ hmem
      have hht := htS_mem hmem
      clear hmem
      generalize kids[j] = p at *
      obtain ⟨pk, pmn, pmx, pns, pms, pkids⟩ := p
      rw [htS_mk] at hht
      obtain ⟨PA, PM, PK, pa, pm, pc, hc, hv⟩ := hp.open_
      obtain ⟨c0, c1, c2, c3, c4, c5, cle⟩ := hc
      obtain ⟨QA, QM, QK, qa, qm, qc, hc', hv'⟩ := hp'.open_
      obtain ⟨d0, d1, d2, d3, d4, d5, dle⟩ := hc'
      have HC := Lib.hid (HI.out pk pmn pmx pns pms pkids PA PM PK QA QM QK pa pm pc qa qm qc B0 B1 wr.drew (by have := HH.out; omega) (hv.keep (Below.refl _ _).drew) (hv'.keep (Below.refl _ _).drew) hlim)
      clear hp hp' hv hv' hlim hht
      go_wp2
      go_region_held3 (fun X => X.cell? ⟨b, off + j * 6, none⟩ = some (.int .i64 pk) ∧ X.cell? ⟨b, off + j * 6 + 1, none⟩ = some (.int .i64 pmn) ∧ X.cell? ⟨b, off + j * 6 + 2, none⟩ = some (.int .i64 pmx) ∧ X.cell? ⟨b, off + j * 6 + 3, none⟩ = some (.slice PA pns.length pa) ∧ X.cell? ⟨b, off + j * 6 + 4, none⟩ = some (.slice PM pms.length pm) ∧ X.cell? ⟨b, off + j * 6 + 5, none⟩ = some (.slice PK pkids.length pc) ∧ X.cell? ⟨b', off' + j * 6, none⟩ = some (.int .i64 pk) ∧ X.cell? ⟨b', off' + j * 6 + 1, none⟩ = some (.int .i64 pmn) ∧ X.cell? ⟨b', off' + j * 6 + 2, none⟩ = some (.int .i64 pmx) ∧ X.cell? ⟨b', off' + j * 6 + 3, none⟩ = some (.slice QA pns.length qa) ∧ X.cell? ⟨b', off' + j * 6 + 4, none⟩ = some (.slice QM pms.length qm) ∧ X.cell? ⟨b', off' + j * 6 + 5, none⟩ = some (.slice QK pkids.length qc))
        (first | exact ⟨cell_keep hb2 c0, cell_keep hb2 c1, cell_keep hb2 c2, cell_keep hb2 c3, cell_keep hb2 c4, cell_keep hb2 c5, cell_keep hb2 d0, cell_keep hb2 d1, cell_keep hb2 d2, cell_keep hb2 d3, cell_keep hb2 d4, cell_keep hb2 d5⟩ | exact ⟨c0, c1, c2, c3, c4, c5, d0, d1, d2, d3, d4, d5⟩)
        (first | (go_at_call 19; refine HC.out.mono ?_; rintro e w2 ⟨rfl, hb2⟩))
      have hb' : Below w.heap.size w w2 := hb.drew.trans (hb2.mono hb.drew.size)
      clear hb2 HC c0 c1 c2 c3 c4 c5 d0 d1 d2 d3 d4 d5 hb
      go_wp2
      go_roundw
      case rel => exact ⟨j + 1, by omega, by go_num, hb'⟩
      case measure => simp [intOf]; omega
    · have hlt' : ¬ (j : Int) < (kids.length : Int) := by omega
      go_wp2
      go_ret
      exact ⟨rfl, hb⟩

set_option maxRecDepth 100000 in
set_option maxHeartbeats 1000000 in
theorem eqsStep {n : Nat} (IH : EqSP n) : EqSP (n + 1) := by
  intro k mn mx ns ms kids A M K A' M' K' ca ma kc ca' ma' kc' B0 B1 w hh hv hv' hl
  have HI := Lib.hid IH
  have HV := Lib.hid hv
  have HV' := Lib.hid hv'
  cases hl with
  | mk _ _ _ _ _ _ l2 l3 lm l4 l5 lb =>
  have HL5 := Lib.hid l5
  clear IH hv hv' l5 l3 lb
  have e0 : (k != k) = false := by simp
  have e1 : (mn != mn) = false := by simp
  have e2 : (mx != mx) = false := by simp
  have O1 : Hid (Own ((w.alloc (.cells #[.int .i64 k, .int .i64 mn, .int .i64 mx, .slice A ns.length ca, .slice M ms.length ma, .slice K kids.length kc] 31)).alloc (.cells #[.int .i64 k, .int .i64 mn, .int .i64 mx, .slice A' ns.length ca', .slice M' ms.length ma', .slice K' kids.length kc'] 31)) w.heap.size 31 [.int .i64 k, .int .i64 mn, .int .i64 mx, .slice A ns.length ca, .slice M ms.length ma, .slice K kids.length kc]) := (Own.new w 31 #[.int .i64 k, .int .i64 mn, .int .i64 mx, .slice A ns.length ca, .slice M ms.length ma, .slice K kids.length kc]).alloc _
  have O2 : Hid (Own ((w.alloc (.cells #[.int .i64 k, .int .i64 mn, .int .i64 mx, .slice A ns.length ca, .slice M ms.length ma, .slice K kids.length kc] 31)).alloc (.cells #[.int .i64 k, .int .i64 mn, .int .i64 mx, .slice A' ns.length ca', .slice M' ms.length ma', .slice K' kids.length kc'] 31)) (w.heap.size + 1) 31 [.int .i64 k, .int .i64 mn, .int .i64 mx, .slice A' ns.length ca', .slice M' ms.length ma', .slice K' kids.length kc']) := by
    have h := Own.new (w.alloc (.cells #[.int .i64 k, .int .i64 mn, .int .i64 mx, .slice A ns.length ca, .slice M ms.length ma, .slice K kids.length kc] 31)) 31 #[.int .i64 k, .int .i64 mn, .int .i64 mx, .slice A' ns.length ca', .slice M' ms.length ma', .slice K' kids.length kc']
    rw [World.size_alloc] at h
    exact h
  have hbW : Below w.heap.size w ((w.alloc (.cells #[.int .i64 k, .int .i64 mn, .int .i64 mx, .slice A ns.length ca, .slice M ms.length ma, .slice K kids.length kc] 31)).alloc (.cells #[.int .i64 k, .int .i64 mn, .int .i64 mx, .slice A' ns.length ca', .slice M' ms.length ma', .slice K' kids.length kc'] 31)) := (below_box _).alloc (by simp) _
  go_enter Tryz.func19, Tryz.ntmps19
  go_wp2_with fail
  generalize (w.alloc (.cells #[.int .i64 k, .int .i64 mn, .int .i64 mx, .slice A ns.length ca, .slice M ms.length ma, .slice K kids.length kc] 31)).alloc (.cells #[.int .i64 k, .int .i64 mn, .int .i64 mx, .slice A' ns.length ca', .slice M' ms.length ma', .slice K' kids.length kc'] 31) = W0 at *
  refine (eqS_same A A' ca ca' ns W0 (HV.out.a.keep hbW) (HV'.out.a.keep hbW) l2).mono ?_
  rintro e w1 ⟨rfl, hb1⟩
  have hB1 : Below w.heap.size w w1 := hbW.trans (hb1.mono hbW.size)
  replace O1 := Lib.hid (O1.out.keep hb1)
  replace O2 := Lib.hid (O2.out.keep hb1)
  clear hb1 hbW
  have x4 : w1.cell? ⟨w.heap.size, 4, none⟩ = some (.slice M ms.length ma) := by rw [O1.out.cell]; rfl
  have y4 : w1.cell? ⟨w.heap.size + 1, 4, none⟩ = some (.slice M' ms.length ma') := by rw [O2.out.cell]; rfl
  have z1 := O1.out.lt
  have z2 := O2.out.lt
  go_wp2_with fail
  refine (eqB_same M M' ma ma' ms w1 (HV.out.m.keep hB1) (HV'.out.m.keep hB1) lm).mono ?_
  rintro e w2 ⟨rfl, hb2⟩
  have hB2 : Below w.heap.size w w2 := hB1.trans (hb2.mono hB1.size)
  replace O1 := Lib.hid (O1.out.keep hb2)
  replace O2 := Lib.hid (O2.out.keep hb2)
  clear hb2 hB1 x4 y4 z1 z2
  have x4 : w2.cell? ⟨w.heap.size, 5, none⟩ = some (.slice K kids.length kc) := by rw [O1.out.cell]; rfl
  have y4 : w2.cell? ⟨w.heap.size + 1, 5, none⟩ = some (.slice K' kids.length kc') := by rw [O2.out.cell]; rfl
  have z1 := O1.out.lt
  have z2 := O2.out.lt
  go_wp2_with fail
  refine (eqsKids HI.out kids K K' kc kc' B0 B1 w2 (by omega) (HV.out.k.keep hB2) (HV'.out.k.keep hB2) l4 HL5.out).mono ?_
  rintro e w3 ⟨rfl, hb3⟩
  have hB3 : Below w.heap.size w w3 := hB2.trans (hb3.mono hB2.size)
  clear hb3 hB2 x4 y4 z1 z2
  go_wp2
  go_ret
  exact ⟨rfl, hB3⟩

theorem eqs_all : ∀ n, EqSP n
  | 0 => by intro k mn mx ns ms kids A M K A' M' K' ca ma kc ca' ma' kc' B0 B1 w hh; omega
  | n + 1 => eqsStep (eqs_all n)

end Go.Proofs.YtkhcappjhefkjaaGreatDoor

