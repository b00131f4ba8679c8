/- Equal charts: eqItem, eqItemS, eqItemSS, eqChart. -/
import Derived.Test.YtafldjbmheopjaaE2
namespace Go.Proofs.Ytafldjbmheopjaa
open Go.RowKit
set_option linter.unusedVariables false

set_option maxRecDepth 100000 in
set_option maxHeartbeats 1000000 in
theorem eqIt_same (x y z : Int) (w : World) :
    Calls Try.prog 66 #[.agg #[.int .i64 x, .int .i64 y, .int .i64 z], .agg #[.int .i64 x, .int .i64 y, .int .i64 z]] w fun e w' => e = .returned (.bool true) ∧ Below w.heap.size w w' := by
  have h0 : (x != x) = false := by simp
  have h1 : (y != y) = false := by simp
  have h2 : (z != z) = false := by simp
  go_enter Try.func66, Try.ntmps66
  go_wp2
  go_ret
  exact ⟨rfl, (below_box _).alloc (by simp) _⟩

set_option maxRecDepth 100000 in
set_option maxHeartbeats 1000000 in
theorem eqIts_same (a a' : Option Addr) (c c' : Nat) (ss : List Sy) (w : World) (hr : Syms w a ss) (hr' : Syms w a' ss) (hm : ss.length ≤ 1048576) :
    Calls Try.prog 54 #[.slice a ss.length c, .slice a' ss.length c'] w fun e w' => e = .returned (.bool true) ∧ Below w.heap.size w w' := by
  have HR := Lib.hid hr
  have HR' := Lib.hid hr'
  clear hr hr'
  have hne : ((ss.length : Int) != (ss.length : Int)) = false := by simp
  go_enter Try.func54, Try.ntmps54
  go_wp2
  go_loopw [5] (fun i wr => ∃ k : Nat, k ≤ ss.length ∧ i = .int .i64 k ∧ Below w.heap.size w wr) (fun i _ => ss.length - (intOf i).toNat)
  case atStart => exact ⟨0, Nat.zero_le _, rfl, Below.refl _ _⟩
  case round =>
    obtain ⟨k, hk, rfl, hb⟩ := hrel
    by_cases hlt : k < ss.length
    · obtain ⟨b, off, rfl, hn⟩ := (HR.out.keep hb).at_ hlt
      obtain ⟨b', off', rfl, hn'⟩ := (HR'.out.keep hb).at_ hlt
      have hlt' : (k : Int) < (ss.length : Int) := by omega
      obtain ⟨c0, c1, c2⟩ := hn
      obtain ⟨d0, d1, d2⟩ := hn'
      generalize hnk : ss[k] = nk at *
      clear hnk
      go_wp2
      go_region_held3 (fun X => X.cell? ⟨b, off + k * 3, none⟩ = some (.int .i64 nk.head) ∧ X.cell? ⟨b, off + k * 3 + 1, none⟩ = some (.int .i64 nk.low) ∧ X.cell? ⟨b, off + k * 3 + 2, none⟩ = some (.int .i64 nk.high) ∧ X.cell? ⟨b', off' + k * 3, none⟩ = some (.int .i64 nk.head) ∧ X.cell? ⟨b', off' + k * 3 + 1, none⟩ = some (.int .i64 nk.low) ∧ X.cell? ⟨b', off' + k * 3 + 2, none⟩ = some (.int .i64 nk.high))
        (first | exact ⟨cell_keep hb2 c0, cell_keep hb2 c1, cell_keep hb2 c2, cell_keep hb2 d0, cell_keep hb2 d1, cell_keep hb2 d2⟩ | exact ⟨c0, c1, c2, d0, d1, d2⟩)
        (first | (go_at_call 66; refine (eqIt_same nk.head nk.low nk.high _).mono ?_; rintro e w2 ⟨rfl, hb2⟩))
      have hb' : Below w.heap.size w w2 := hb.drew.trans (hb2.mono hb.drew.size)
      clear hb2 c0 c1 c2 d0 d1 d2 hb
      go_wp2
      go_roundw
      case rel => exact ⟨k + 1, by omega, by go_num, hb'⟩
      case measure => simp [intOf]; omega
    · have hlt' : ¬ (k : Int) < (ss.length : Int) := by omega
      go_wp2
      go_ret
      exact ⟨rfl, hb⟩

set_option maxRecDepth 100000 in
set_option maxHeartbeats 1000000 in
theorem eqSts_same (a a' : Option Addr) (c c' : Nat) (ts : List (List Sy)) (w : World) (hr : Sts w a ts) (hr' : Sts w a' ts) (hm : ts.length ≤ 1048576) (hs : SmallT ts) :
    Calls Try.prog 31 #[.slice a ts.length c, .slice a' ts.length c'] w fun e w' => e = .returned (.bool true) ∧ Below w.heap.size w w' := by
  have HR := Lib.hid hr
  have HR' := Lib.hid hr'
  have HS := Lib.hid hs
  clear hr hr' hs
  have hne : ((ts.length : Int) != (ts.length : Int)) = false := by simp
  go_enter Try.func31, Try.ntmps31
  go_wp2
  go_loopw [5] (fun i wr => ∃ k : Nat, k ≤ ts.length ∧ i = .int .i64 k ∧ Below w.heap.size w wr) (fun i _ => ts.length - (intOf i).toNat)
  case atStart => exact ⟨0, Nat.zero_le _, rfl, Below.refl _ _⟩
  case round =>
    obtain ⟨k, hk, rfl, hb⟩ := hrel
    by_cases hlt : k < ts.length
    · obtain ⟨b, off, rfl, K, kc, c1, hn⟩ := (HR.out.keep hb).at_ hlt
      obtain ⟨b', off', rfl, K', kc', d1, hn'⟩ := (HR'.out.keep hb).at_ hlt
      have hlt' : (k : Int) < (ts.length : Int) := by omega
      have hz1 := HS.out _ (List.getElem_mem hlt)
      generalize hnk : ts[k] = nk at *
      clear hnk
      go_wp2
      go_region_held3 (fun X => X.cell? ⟨b, off + k, none⟩ = some (.slice K nk.length kc) ∧ X.cell? ⟨b', off' + k, none⟩ = some (.slice K' nk.length kc'))
        (first | exact ⟨cell_keep hb2 c1, cell_keep hb2 d1⟩ | exact ⟨c1, d1⟩)
        (first | (go_at_call 54; refine (eqIts_same K K' kc kc' nk _ hn.drew hn'.drew hz1).mono ?_; rintro e w2 ⟨rfl, hb2⟩))
      have hb' : Below w.heap.size w w2 := hb.drew.trans (hb2.mono hb.drew.size)
      clear hb2 hn hn' c1 d1 hb
      go_wp2
      go_roundw
      case rel => exact ⟨k + 1, by omega, by go_num, hb'⟩
      case measure => simp [intOf]; omega
    · have hlt' : ¬ (k : Int) < (ts.length : Int) := by omega
      go_wp2
      go_ret
      exact ⟨rfl, hb⟩

set_option maxRecDepth 100000 in
set_option maxHeartbeats 1000000 in
theorem eqChart_same (a a' : Option Addr) (c c' : Nat) (ts : List (List Sy)) (w : World) (hr : Sts w a ts) (hr' : Sts w a' ts) (hm : ts.length ≤ 1048576) (hs : SmallT ts) :
    Calls Try.prog 12 #[.agg #[.slice a ts.length c], .agg #[.slice a' ts.length c']] w fun e w' => e = .returned (.bool true) ∧ Below w.heap.size w w' := by
  have HR := Lib.hid hr
  have HR' := Lib.hid hr'
  have HS := Lib.hid hs
  clear hr hr' hs
  go_enter Try.func12, Try.ntmps12
  go_wp2_with fail
  refine (eqSts_same a a' c c' ts _ (HR.out.keep ((below_box _).alloc (by simp) _)) (HR'.out.keep ((below_box _).alloc (by simp) _)) hm HS.out).mono ?_
  rintro e w1 ⟨rfl, hb⟩
  go_wp2
  go_ret
  exact ⟨rfl, ((below_box _).alloc (by simp) _).trans (hb.mono (by simp; omega))⟩

end Go.Proofs.Ytafldjbmheopjaa
