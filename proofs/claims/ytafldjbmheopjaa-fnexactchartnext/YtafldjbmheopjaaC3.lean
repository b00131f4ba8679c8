/- Equal productions: eqSym, eqSymS, eqProd, eqProdS, eqCfg. -/
import Derived.Test.YtafldjbmheopjaaC2
namespace Go.Proofs.Ytafldjbmheopjaa
open Go.RowKit
set_option linter.unusedVariables false

set_option maxRecDepth 100000 in
set_option maxHeartbeats 1000000 in
theorem eqSy_same (x y z : Int) (w : World) :
    Calls Try.prog 79 #[.agg #[.int .i64 x, .int .i64 y, .int .i64 z], .agg #[.int .i64 x, .int .i64 y, .int .i64 z]] w fun e w' => e = .returned (.bool true) ∧ Below w.heap.size w w' := by
  have h0 : (x != x) = false := by simp
  have h1 : (y != y) = false := by simp
  have h2 : (z != z) = false := by simp
  go_enter Try.func79, Try.ntmps79
  go_wp2
  go_ret
  exact ⟨rfl, (below_box _).alloc (by simp) _⟩

set_option maxRecDepth 100000 in
set_option maxHeartbeats 1000000 in
theorem eqSyms_same (a a' : Option Addr) (c c' : Nat) (ss : List Sy) (w : World) (hr : Syms w a ss) (hr' : Syms w a' ss) (hm : ss.length ≤ 1048576) :
    Calls Try.prog 65 #[.slice a ss.length c, .slice a' ss.length c'] w fun e w' => e = .returned (.bool true) ∧ Below w.heap.size w w' := by
  have HR := Lib.hid hr
  have HR' := Lib.hid hr'
  clear hr hr'
  have hne : ((ss.length : Int) != (ss.length : Int)) = false := by simp
  go_enter Try.func65, Try.ntmps65
  go_wp2
  go_loopw [5] (fun i wr => ∃ k : Nat, k ≤ ss.length ∧ i = .int .i64 k ∧ Below w.heap.size w wr) (fun i _ => ss.length - (intOf i).toNat)
  case atStart => exact ⟨0, Nat.zero_le _, rfl, Below.refl _ _⟩
  case round =>
    obtain ⟨k, hk, rfl, hb⟩ := hrel
    by_cases hlt : k < ss.length
    · obtain ⟨b, off, rfl, hn⟩ := (HR.out.keep hb).at_ hlt
      obtain ⟨b', off', rfl, hn'⟩ := (HR'.out.keep hb).at_ hlt
      have hlt' : (k : Int) < (ss.length : Int) := by omega
      obtain ⟨c0, c1, c2⟩ := hn
      obtain ⟨d0, d1, d2⟩ := hn'
      generalize hnk : ss[k] = nk at *
      clear hnk
      go_wp2
      go_region_held3 (fun X => X.cell? ⟨b, off + k * 3, none⟩ = some (.int .i64 nk.head) ∧ X.cell? ⟨b, off + k * 3 + 1, none⟩ = some (.int .i64 nk.low) ∧ X.cell? ⟨b, off + k * 3 + 2, none⟩ = some (.int .i64 nk.high) ∧ X.cell? ⟨b', off' + k * 3, none⟩ = some (.int .i64 nk.head) ∧ X.cell? ⟨b', off' + k * 3 + 1, none⟩ = some (.int .i64 nk.low) ∧ X.cell? ⟨b', off' + k * 3 + 2, none⟩ = some (.int .i64 nk.high))
        (first | exact ⟨cell_keep hb2 c0, cell_keep hb2 c1, cell_keep hb2 c2, cell_keep hb2 d0, cell_keep hb2 d1, cell_keep hb2 d2⟩ | exact ⟨c0, c1, c2, d0, d1, d2⟩)
        (first | (go_at_call 79; refine (eqSy_same nk.head nk.low nk.high _).mono ?_; rintro e w2 ⟨rfl, hb2⟩))
      have hb' : Below w.heap.size w w2 := hb.drew.trans (hb2.mono hb.drew.size)
      clear hb2 c0 c1 c2 d0 d1 d2 hb
      go_wp2
      go_roundw
      case rel => exact ⟨k + 1, by omega, by go_num, hb'⟩
      case measure => simp [intOf]; omega
    · have hlt' : ¬ (k : Int) < (ss.length : Int) := by omega
      go_wp2
      go_ret
      exact ⟨rfl, hb⟩

set_option maxRecDepth 100000 in
set_option maxHeartbeats 1000000 in
theorem eqPd_same (p : Pd) (K K' : Option Addr) (kc kc' : Nat) (w : World) (hk : Syms w K p.body) (hk' : Syms w K' p.body) (h1 : p.body.length ≤ 1048576) :
    Calls Try.prog 53 #[.agg #[.int .i64 p.head, .slice K p.body.length kc], .agg #[.int .i64 p.head, .slice K' p.body.length kc']] w fun e w' => e = .returned (.bool true) ∧ Below w.heap.size w w' := by
  have HK := Lib.hid hk
  have HK' := Lib.hid hk'
  clear hk hk'
  have hne : (p.head != p.head) = false := by simp
  go_enter Try.func53, Try.ntmps53
  go_wp2_with fail
  refine (eqSyms_same K K' kc kc' p.body _ (HK.out.keep ((below_box _).alloc (by simp) _)) (HK'.out.keep ((below_box _).alloc (by simp) _)) h1).mono ?_
  rintro e w1 ⟨rfl, hb⟩
  go_wp2
  go_ret
  exact ⟨rfl, ((below_box _).alloc (by simp) _).trans (hb.mono (by simp; omega))⟩

set_option maxRecDepth 100000 in
set_option maxHeartbeats 1000000 in
theorem eqPds_same (a a' : Option Addr) (c c' : Nat) (ps : List Pd) (w : World) (hr : Pds w a ps) (hr' : Pds w a' ps) (hm : ps.length ≤ 1048576) (hs : Small ps) :
    Calls Try.prog 30 #[.slice a ps.length c, .slice a' ps.length c'] w fun e w' => e = .returned (.bool true) ∧ Below w.heap.size w w' := by
  have HR := Lib.hid hr
  have HR' := Lib.hid hr'
  have HS := Lib.hid hs
  clear hr hr' hs
  have hne : ((ps.length : Int) != (ps.length : Int)) = false := by simp
  go_enter Try.func30, Try.ntmps30
  go_wp2
  go_loopw [5] (fun i wr => ∃ k : Nat, k ≤ ps.length ∧ i = .int .i64 k ∧ Below w.heap.size w wr) (fun i _ => ps.length - (intOf i).toNat)
  case atStart => exact ⟨0, Nat.zero_le _, rfl, Below.refl _ _⟩
  case round =>
    obtain ⟨k, hk, rfl, hb⟩ := hrel
    by_cases hlt : k < ps.length
    · obtain ⟨b, off, rfl, K, kc, hn⟩ := (HR.out.keep hb).at_ hlt
      obtain ⟨b', off', rfl, K', kc', hn'⟩ := (HR'.out.keep hb).at_ hlt
      have hlt' : (k : Int) < (ps.length : Int) := by omega
      have hz1 := HS.out _ (List.getElem_mem hlt)
      have c0 := hn.c0
      have c1 := hn.c1
      have d0 := hn'.c0
      have d1 := hn'.c1
      generalize hnk : ps[k] = nk at *
      clear hnk
      go_wp2
      go_region_held3 (fun X => X.cell? ⟨b, off + k * 2, none⟩ = some (.int .i64 nk.head) ∧ X.cell? ⟨b, off + k * 2 + 1, none⟩ = some (.slice K nk.body.length kc) ∧ X.cell? ⟨b', off' + k * 2, none⟩ = some (.int .i64 nk.head) ∧ X.cell? ⟨b', off' + k * 2 + 1, none⟩ = some (.slice K' nk.body.length kc'))
        (first | exact ⟨cell_keep hb2 c0, cell_keep hb2 c1, cell_keep hb2 d0, cell_keep hb2 d1⟩ | exact ⟨c0, c1, d0, d1⟩)
        (first | (go_at_call 53; refine (eqPd_same nk K K' kc kc' _ hn.k.drew hn'.k.drew hz1).mono ?_; rintro e w2 ⟨rfl, hb2⟩))
      have hb' : Below w.heap.size w w2 := hb.drew.trans (hb2.mono hb.drew.size)
      clear hb2 hn hn' c0 c1 d0 d1 hb
      go_wp2
      go_roundw
      case rel => exact ⟨k + 1, by omega, by go_num, hb'⟩
      case measure => simp [intOf]; omega
    · have hlt' : ¬ (k : Int) < (ps.length : Int) := by omega
      go_wp2
      go_ret
      exact ⟨rfl, hb⟩

set_option maxRecDepth 100000 in
set_option maxHeartbeats 1000000 in
theorem eqCfg_same (a a' : Option Addr) (c c' : Nat) (hd : Int) (ps : List Pd) (w : World) (hr : Pds w a ps) (hr' : Pds w a' ps) (hm : ps.length ≤ 1048576) (hs : Small ps) :
    Calls Try.prog 11 #[.agg #[.int .i64 hd, .slice a ps.length c], .agg #[.int .i64 hd, .slice a' ps.length c']] w fun e w' => e = .returned (.bool true) ∧ Below w.heap.size w w' := by
  have HR := Lib.hid hr
  have HR' := Lib.hid hr'
  have HS := Lib.hid hs
  clear hr hr' hs
  have hne : (hd != hd) = false := by simp
  go_enter Try.func11, Try.ntmps11
  go_wp2_with fail
  refine (eqPds_same a a' c c' ps _ (HR.out.keep ((below_box _).alloc (by simp) _)) (HR'.out.keep ((below_box _).alloc (by simp) _)) hm HS.out).mono ?_
  rintro e w1 ⟨rfl, hb⟩
  go_wp2
  go_ret
  exact ⟨rfl, ((below_box _).alloc (by simp) _).trans (hb.mono (by simp; omega))⟩

/-- A law's answer: true, and nothing that was there has turned. -/
def True_ (w : World) (e : Ending) (w' : World) : Prop := e = .returned (.bool true) ∧ Below w.heap.size w w'

end Go.Proofs.Ytafldjbmheopjaa
