/- Values compared with what is the same: eqStringS, eqJson, eqJsonS. -/
import Derived.Test.YtkhcappjhefkjaaGreatDoorJ2
namespace Go.Proofs.YtkhcappjhefkjaaGreatDoor
open Go.RowKit
set_option linter.unusedVariables false

set_option maxHeartbeats 400000 in
theorem eqS_same (a a' : Option Addr) (c c' : Nat) (zs : List ByteArray) (w : World) (hr : Row w a (strs zs)) (hr' : Row w a' (strs zs)) (hm : zs.length ≤ 1048576) :
    Calls Tryz.prog 43 #[.slice a zs.length c, .slice a' zs.length c'] w fun e w' => e = .returned (.bool true) ∧ Below w.heap.size w w' := by
  have HR := Lib.hid hr
  have HR' := Lib.hid hr'
  clear hr hr'
  have hne0 : ((zs.length : Int) != (zs.length : Int)) = false := by simp
  go_enter Tryz.func43, Tryz.ntmps43
  go_wp2
  go_loopw [5] (fun i wr => ∃ k : Nat, k ≤ zs.length ∧ i = .int .i64 k ∧ Below w.heap.size w wr) (fun i _ => zs.length - (intOf i).toNat)
  case atStart => exact ⟨0, Nat.zero_le _, rfl, Below.refl _ _⟩
  case round =>
    obtain ⟨k, hk, rfl, hb⟩ := hrel
    by_cases hlt : k < zs.length
    · obtain ⟨b, off, rfl, hc⟩ := (HR.out.keep hb).str hlt
      obtain ⟨b', off', rfl, hc'⟩ := (HR'.out.keep hb).str hlt
      have hk1 : (k : Int) < (zs.length : Int) := by omega
      generalize zs[k] = z at *
      have hne : (z.toList == z.toList) = true := by simp
      have hne2 : (z.toList != z.toList) = false := by simp
      go_wp2
      go_quiet (fail)
      go_wp2
      go_roundw
      case rel => exact ⟨k + 1, by omega, by go_num, below_drewN hb _⟩
      case measure => simp [intOf]; omega
    · have hk1 : ¬ (k : Int) < (zs.length : Int) := by omega
      go_wp2
      go_ret
      exact ⟨rfl, hb⟩

/-- A value is compared with the same. -/
def EqP (n : Nat) : Prop := ∀ (k : Int) (f : Bool) (t : ByteArray) (ns : List ByteArray) (kids : List Js) (A K A' K' : Option Addr) (ca kc ca' kc' B0 B1 : Nat) (w : World), htJ kids + 1 ≤ n → JsV w B0 ns kids A K → JsV w B1 ns kids A' K' → LimJ 1048576 (.mk k f t ns kids) →
  Calls Tryz.prog 24 #[.agg #[.int .i64 k, .bool f, .string t, .slice A ns.length ca, .slice K kids.length kc], .agg #[.int .i64 k, .bool f, .string t, .slice A' ns.length ca', .slice K' kids.length kc']] w (fun e w' => e = .returned (.bool true) ∧ Below w.heap.size w w')

set_option maxRecDepth 100000 in
set_option maxHeartbeats 1000000 in
theorem eqKids {n : Nat} (IH : EqP n) (kids : List Js) (K K' : Option Addr) (kc kc' B0 B1 : Nat) (w : World) (hh : htJ kids ≤ n) (hk : Jss w B0 K kids) (hk' : Jss w B1 K' kids) (hm : kids.length ≤ 1048576) (hl : ∀ p ∈ kids, LimJ 1048576 p) :
    Calls Tryz.prog 50 #[.slice K kids.length kc, .slice K' kids.length kc'] w (fun e w' => e = .returned (.bool true) ∧ Below w.heap.size w w') := by
  have HI := Lib.hid IH
  have HK := Lib.hid hk
  have HK' := Lib.hid hk'
  have HL := Lib.hid hl
  have HH := Lib.hid hh
  clear IH hk hk' hl hh
  have hne : ((kids.length : Int) != (kids.length : Int)) = false := by simp
  go_enter Tryz.func50, Tryz.ntmps50
  go_wp2
  go_loopw [5] (fun i wr => ∃ j : Nat, j ≤ kids.length ∧ i = .int .i64 j ∧ Below w.heap.size w wr) (fun i _ => kids.length - (intOf i).toNat)
  case atStart => exact ⟨0, Nat.zero_le _, rfl, Below.refl _ _⟩
  case round =>
    obtain ⟨j, hj, rfl, hb⟩ := hrel
    by_cases hlt : j < kids.length
    · have hlt' : (j : Int) < (kids.length : Int) := by omega
      obtain ⟨b, off, rfl, hp⟩ := (HK.out.keep hb).at_ hlt
      obtain ⟨b', off', rfl, hp'⟩ := (HK'.out.keep hb).at_ hlt
      have hmem := List.getElem_mem hlt
      have hlim := HL.out _ hmem
      have hht := htJ_mem hmem
      clear hmem
      generalize kids[j] = p at *
      obtain ⟨pk, pf, pt, pns, pkids⟩ := p
      rw [htJ_mk] at hht
      obtain ⟨PA, PK, pa, pc, hc, hv⟩ := hp.open_
      obtain ⟨c0, c1, c2, c3, c4⟩ := hc
      obtain ⟨QA, QK, qa, qc, hc', hv'⟩ := hp'.open_
      obtain ⟨d0, d1, d2, d3, d4⟩ := hc'
      have HC := Lib.hid (HI.out pk pf pt pns pkids PA PK QA QK pa pc qa qc B0 B1 wr.drew (by have := HH.out; omega) (hv.keep (Below.refl _ _).drew) (hv'.keep (Below.refl _ _).drew) hlim)
      clear hp hp' hv hv' hlim hht
      go_wp2
      go_region_held3 (fun X => X.cell? ⟨b, off + j * 5, none⟩ = some (.int .i64 pk) ∧ X.cell? ⟨b, off + j * 5 + 1, none⟩ = some (.bool pf) ∧ X.cell? ⟨b, off + j * 5 + 2, none⟩ = some (.string pt) ∧ X.cell? ⟨b, off + j * 5 + 3, none⟩ = some (.slice PA pns.length pa) ∧ X.cell? ⟨b, off + j * 5 + 4, none⟩ = some (.slice PK pkids.length pc) ∧ X.cell? ⟨b', off' + j * 5, none⟩ = some (.int .i64 pk) ∧ X.cell? ⟨b', off' + j * 5 + 1, none⟩ = some (.bool pf) ∧ X.cell? ⟨b', off' + j * 5 + 2, none⟩ = some (.string pt) ∧ X.cell? ⟨b', off' + j * 5 + 3, none⟩ = some (.slice QA pns.length qa) ∧ X.cell? ⟨b', off' + j * 5 + 4, none⟩ = some (.slice QK pkids.length qc))
        (first | exact ⟨cell_keep hb2 c0, cell_keep hb2 c1, cell_keep hb2 c2, cell_keep hb2 c3, cell_keep hb2 c4, cell_keep hb2 d0, cell_keep hb2 d1, cell_keep hb2 d2, cell_keep hb2 d3, cell_keep hb2 d4⟩ | exact ⟨c0, c1, c2, c3, c4, d0, d1, d2, d3, d4⟩)
        (first | (go_at_call 24; refine HC.out.mono ?_; rintro e w2 ⟨rfl, hb2⟩))
      have hb' : Below w.heap.size w w2 := hb.drew.trans (hb2.mono hb.drew.size)
      clear hb2 HC c0 c1 c2 c3 c4 d0 d1 d2 d3 d4 hb
      go_wp2
      go_roundw
      case rel => exact ⟨j + 1, by omega, by go_num, hb'⟩
      case measure => simp [intOf]; omega
    · have hlt' : ¬ (j : Int) < (kids.length : Int) := by omega
      go_wp2
      go_ret
      exact ⟨rfl, hb⟩

set_option maxRecDepth 100000 in
set_option maxHeartbeats 1000000 in
theorem eqStep {n : Nat} (IH : EqP n) : EqP (n + 1) := by
  intro k f t ns kids A K A' K' ca kc ca' kc' B0 B1 w hh hv hv' hl
  have HI := Lib.hid IH
  have HV := Lib.hid hv
  have HV' := Lib.hid hv'
  cases hl with
  | mk _ _ _ _ _ l1 l2 l3 l4 l5 =>
  have HL5 := Lib.hid l5
  clear IH hv hv' l5 l3
  have e0 : (k != k) = false := by simp
  have e1 : (f != f) = false := by simp
  have e3 : (t.toList == t.toList) = true := by simp
  have e4 : (t.toList != t.toList) = false := by simp
  have O1 : Hid (Own ((w.alloc (.cells #[.int .i64 k, .bool f, .string t, .slice A ns.length ca, .slice K kids.length kc] 42)).alloc (.cells #[.int .i64 k, .bool f, .string t, .slice A' ns.length ca', .slice K' kids.length kc'] 42)) w.heap.size 42 [.int .i64 k, .bool f, .string t, .slice A ns.length ca, .slice K kids.length kc]) := (Own.new w 42 #[.int .i64 k, .bool f, .string t, .slice A ns.length ca, .slice K kids.length kc]).alloc _
  have O2 : Hid (Own ((w.alloc (.cells #[.int .i64 k, .bool f, .string t, .slice A ns.length ca, .slice K kids.length kc] 42)).alloc (.cells #[.int .i64 k, .bool f, .string t, .slice A' ns.length ca', .slice K' kids.length kc'] 42)) (w.heap.size + 1) 42 [.int .i64 k, .bool f, .string t, .slice A' ns.length ca', .slice K' kids.length kc']) := by
    have h := Own.new (w.alloc (.cells #[.int .i64 k, .bool f, .string t, .slice A ns.length ca, .slice K kids.length kc] 42)) 42 #[.int .i64 k, .bool f, .string t, .slice A' ns.length ca', .slice K' kids.length kc']
    rw [World.size_alloc] at h
    exact h
  have hbW : Below w.heap.size w ((w.alloc (.cells #[.int .i64 k, .bool f, .string t, .slice A ns.length ca, .slice K kids.length kc] 42)).alloc (.cells #[.int .i64 k, .bool f, .string t, .slice A' ns.length ca', .slice K' kids.length kc'] 42)) := (below_box _).alloc (by simp) _
  go_enter Tryz.func24, Tryz.ntmps24
  go_wp2_with fail
  generalize (w.alloc (.cells #[.int .i64 k, .bool f, .string t, .slice A ns.length ca, .slice K kids.length kc] 42)).alloc (.cells #[.int .i64 k, .bool f, .string t, .slice A' ns.length ca', .slice K' kids.length kc'] 42) = W0 at *
  refine (eqS_same A A' ca ca' ns W0 (HV.out.a.keep hbW) (HV'.out.a.keep hbW) l2).mono ?_
  rintro e w1 ⟨rfl, hb1⟩
  have hB1 : Below w.heap.size w w1 := hbW.trans (hb1.mono hbW.size)
  replace O1 := Lib.hid (O1.out.keep hb1)
  replace O2 := Lib.hid (O2.out.keep hb1)
  clear hb1 hbW
  have x4 : w1.cell? ⟨w.heap.size, 4, none⟩ = some (.slice K kids.length kc) := by rw [O1.out.cell]; rfl
  have y4 : w1.cell? ⟨w.heap.size + 1, 4, none⟩ = some (.slice K' kids.length kc') := by rw [O2.out.cell]; rfl
  have z1 := O1.out.lt
  have z2 := O2.out.lt
  go_wp2_with fail
  refine (eqKids HI.out kids K K' kc kc' B0 B1 w1 (by omega) (HV.out.k.keep hB1) (HV'.out.k.keep hB1) l4 HL5.out).mono ?_
  rintro e w2 ⟨rfl, hb2⟩
  have hB2 : Below w.heap.size w w2 := hB1.trans (hb2.mono hB1.size)
  clear hb2 hB1 x4 y4 z1 z2
  go_wp2
  go_ret
  exact ⟨rfl, hB2⟩

theorem eq_all : ∀ n, EqP n
  | 0 => by intro k f t ns kids A K A' K' ca kc ca' kc' B0 B1 w hh; omega
  | n + 1 => eqStep (eq_all n)

end Go.Proofs.YtkhcappjhefkjaaGreatDoor

