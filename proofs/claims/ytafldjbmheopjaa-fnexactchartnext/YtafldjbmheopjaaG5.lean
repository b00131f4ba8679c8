/- What is asked of a builder of charts: next, head, last, ends. -/
import Derived.Test.YtafldjbmheopjaaF5
namespace Go.Proofs.Ytafldjbmheopjaa
open Go.RowKit
set_option linter.unusedVariables false

/-- The symbol that an item of a production waits for, as a value, and whether there is one. -/
def nextV (p : Pd) (d : Nat) : Value := match p.body[d]? with | some s => .agg #[.int .i64 s.head, .int .i64 s.low, .int .i64 s.high] | none => .agg #[.int .i64 0, .int .i64 0, .int .i64 0]
def isWaiting (p : Pd) (d : Nat) : Bool := decide (d < p.body.length)

/-- A builder of charts in memory, as far as its productions are asked. -/
structure BQ (w : World) (bb : Nat) (A : Option Addr) (cap : Nat) (qs : List Pd) : Prop where
  c : w.cell? ⟨bb, 1, none⟩ = some (.slice A qs.length cap)
  p : Pds w A qs
theorem BQ.keep {w w' : World} {bb : Nat} {A : Option Addr} {cap : Nat} {qs : List Pd} (h : BQ w bb A cap qs) (hb : Below w.heap.size w w') : BQ w' bb A cap qs := ⟨cell_keep hb h.c, h.p.keep hb⟩

set_option maxRecDepth 100000 in
set_option maxHeartbeats 1000000 in
theorem next_any (bb : Nat) (A : Option Addr) (cap : Nat) (qs : List Pd) (i d : Nat) (f : Int) (w : World) (hq : BQ w bb A cap qs) (hm : qs.length ≤ 1048576) (hs : Small qs) (hi : i < qs.length) (hd' : d ≤ qs[i].body.length) :
    Calls Try.prog 47 #[.pointer (some ⟨bb, 0, none⟩), .agg #[.int .i64 (i : Int), .int .i64 (d : Int), .int .i64 f]] w fun e w' => e = .returned (.tuple #[nextV qs[i] d, .bool (isWaiting qs[i] d)]) ∧ Below w.heap.size w w' := by
  have hsm := hs _ (List.getElem_mem hi)
  have hb0 : Below w.heap.size w ((w.alloc (.cells #[.int .i64 (i : Int), .int .i64 (d : Int), .int .i64 f] 54)).alloc (.cells #[.int .i64 0, .int .i64 0, .int .i64 0] 68)) := (below_box _).alloc (by simp) _
  have hq1 := hq.keep hb0
  have kc0 := hq1.c
  obtain ⟨b, off, rfl, K, kc, hn⟩ := hq1.p.at_ hi
  have c1 := hn.c1
  have hi' : (i : Int) < (qs.length : Int) := by omega
  have hK := Lib.hid hn.k
  clear hn hq hq1 hs
  generalize hp : qs[i] = p at *
  clear hp
  by_cases h : d = p.body.length
  · have E1 : Hid (nextV p d = .agg #[.int .i64 0, .int .i64 0, .int .i64 0]) := by show _ = _; unfold nextV; rw [List.getElem?_eq_none (by omega)]
    have E2 : Hid (isWaiting p d = false) := by show _ = _; unfold isWaiting; simp [h]
    subst h
    clear hK
    go_enter Try.func47, Try.ntmps47
    go_wp2
    go_quiet (fail)
    go_wp2
    refine bodyPost_ret (v := .tuple #[.agg #[.int .i64 0, .int .i64 0, .int .i64 0], .bool false]) (by simp [results, Try.results47, go_sem]) rfl ⟨by rw [E1.out, E2.out], ?_⟩
    exact ((below_drewN hb0 _).setCell (by simp) _).setCell (by simp) _ |>.setCell (by simp) _
  · have hdl : d < p.body.length := by omega
    have E1 : Hid (nextV p d = .agg #[.int .i64 p.body[d].head, .int .i64 p.body[d].low, .int .i64 p.body[d].high]) := by show _ = _; unfold nextV; rw [List.getElem?_eq_getElem hdl]
    have E2 : Hid (isWaiting p d = true) := by show _ = _; unfold isWaiting; simp [hdl]
    have h' : ((d : Int) == (p.body.length : Int)) = false := by simp; omega
    obtain ⟨kb, ko, rfl, hsy⟩ := hK.out.at_ hdl
    obtain ⟨s0, s1, s2⟩ := hsy
    have hdl' : (d : Int) < (p.body.length : Int) := by omega
    clear hK
    generalize p.body[d] = s at *
    go_enter Try.func47, Try.ntmps47
    go_wp2
    go_quiet (fail)
    go_wp2
    refine bodyPost_ret (v := .tuple #[.agg #[.int .i64 s.head, .int .i64 s.low, .int .i64 s.high], .bool true]) (by simp [results, Try.results47, go_sem]) rfl ⟨by rw [E1.out, E2.out], ?_⟩
    exact ((below_drewN hb0 _).setCell (by simp) _).setCell (by simp) _ |>.setCell (by simp) _

set_option maxRecDepth 100000 in
set_option maxHeartbeats 1000000 in
theorem bhead_any (bb : Nat) (A : Option Addr) (cap : Nat) (qs : List Pd) (i d : Nat) (f : Int) (w : World) (hq : BQ w bb A cap qs) (hm : qs.length ≤ 1048576) (hi : i < qs.length) :
    Calls Try.prog 52 #[.pointer (some ⟨bb, 0, none⟩), .agg #[.int .i64 (i : Int), .int .i64 (d : Int), .int .i64 f]] w fun e w' => e = .returned (.int .i64 qs[i].head) ∧ Below w.heap.size w w' := by
  have hq1 := hq.keep (below_box (.cells #[.int .i64 (i : Int), .int .i64 (d : Int), .int .i64 f] 54))
  have kc0 := hq1.c
  obtain ⟨b, off, rfl, K, kc, hn⟩ := hq1.p.at_ hi
  have c0 := hn.c0
  have hi' : (i : Int) < (qs.length : Int) := by omega
  clear hn hq hq1
  generalize qs[i] = p at *
  go_enter Try.func52, Try.ntmps52
  go_wp2
  go_quiet (fail)
  go_wp2
  go_ret
  exact ⟨rfl, below_drewN (below_box _) _⟩

set_option maxRecDepth 100000 in
set_option maxHeartbeats 1000000 in
theorem last_any (bb : Nat) (A : Option Addr) (cap k : Nat) (K : Option Addr) (n kc : Nat) (b off : Nat) (w : World) (hc : w.cell? ⟨bb, 3, none⟩ = some (.slice (some ⟨b, off, none⟩) (k + 1) cap)) (hk : k ≤ 1048576) (hl : w.cell? ⟨b, off + k, none⟩ = some (.slice K n kc)) :
    Calls Try.prog 50 #[.pointer (some ⟨bb, 0, none⟩)] w fun e w' => e = .returned (.slice K n kc) ∧ Below w.heap.size w w' := by
  have hwk : IntKind.i64.wrap ((k : Int) + 1 - 1) = (k : Int) := by rw [IntKind.wrap_i64]; omega
  have hkl : (k : Int) < (k : Int) + 1 := by omega
  go_enter Try.func50, Try.ntmps50
  go_wp2
  go_quiet (fail)
  go_wp2
  go_ret
  exact ⟨rfl, below_drewN (Below.refl _ _) _⟩

end Go.Proofs.Ytafldjbmheopjaa
