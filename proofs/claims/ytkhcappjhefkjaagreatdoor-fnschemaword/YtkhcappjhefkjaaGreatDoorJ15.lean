/- impl.yieldValue. -/
import Derived.Test.YtkhcappjhefkjaaGreatDoorJ14
import Derived.RangeFuncNested
import Derived.RangeFuncBound
import Derived.RangeFuncCalls
import Derived.RangeFuncLeaves
import Derived.RangeFuncFrom
import Derived.Shelf.Abstract
import Derived.Shelf.RegionOpen
import Derived.OwnWalkIn
import Derived.TacticsInMore
import Derived.LoopNIn
import Derived.LoopIn
namespace Go.Proofs.YtkhcappjhefkjaaGreatDoor
open Go.RowKit Go.Shelf
set_option linter.unusedVariables false
attribute [local go_sem] Oper.semAt_some

/-- Cells that are no row of bytes and not the builder's are kept. -/
def KC (b : Nat) (w w' : World) : Prop := ∀ (k : Nat) (cs : Array Value) (t : TypeId) (fr : Nat × Nat), w.heap[k]? = some (.cells cs t fr) → k ≠ b → t ≠ 5 → w'.heap[k]? = some (.cells cs t fr)
theorem KC.own {b : Nat} {w w' : World} (h : KC b w w') {g : Nat} {t : TypeId} {xs : List Value} (ho : Own w g t xs) (hg : g ≠ b) (ht : t ≠ 5) : Own w' g t xs := h g _ t _ ho hg ht

/-- What the caller's round does when it is handed a part: it goes on, or says 'no more'. -/
structure YS (l N b : Nat) (w0 : World) (J Jx : List Sub → World → Prop) : Prop where
  j : ∀ s W W', J s W → Below W.heap.size W W' → J s W'
  jb : ∀ s W, J s W → b < W.heap.size
  y : ∀ m pre (x : Sub) W, J pre W → pre.length < N → YieldAt Fence.wide m Tryz.prog l #[.string x.1] W fun e W' => (e = .returned (.bool true) ∧ J (pre ++ [x]) W' ∧ Below w0.heap.size W W' ∧ KC b W W') ∨ (e = .returned (.bool false) ∧ Jx (pre ++ [x]) W')

/-- All parts have come, or the first ones, the last of them having been said 'no more' to. -/
def YPost (w0 : World) (J Jx : List Sub → World → Prop) (pre ps : List Sub) (e : Ending) (W' : World) : Prop :=
  (e = .returned (.bool true) ∧ J (pre ++ ps) W' ∧ Below w0.heap.size w0 W') ∨ (e = .returned (.bool false) ∧ ∃ q, q <+: ps ∧ Jx (pre ++ q) W')

set_option maxRecDepth 100000 in
set_option maxHeartbeats 2000000 in
theorem yield1 {l N bb : Nat} {w0 : World} {J Jx : List Sub → World → Prop} (hY : YS l N bb w0 J Jx) (m : Nat) (f : Bool) (t : ByteArray) (ns : List ByteArray) (kids : List Js) (A K : Option Addr) (ca kc : Nat) (pre : List Sub) (W : World)
    (hone : OneP 1 f t ns kids) (l2 : ns.length ≤ 1048576) (l4 : kids.length ≤ 1048576) (hb : Below w0.heap.size w0 W) (hJ : J pre W) (hN : pre.length < N) :
    CallsIn Fence.wide m Tryz.prog 124 #[.agg #[.int .i64 1, .bool f, .string t, .slice A ns.length ca, .slice K kids.length kc], .func (.yield l) #[] #[]] W (YPost w0 J Jx pre [cl nullS]) := by
  have HBX := Lib.hid (below_box (w := W) (.cells #[.int .i64 1, .bool f, .string t, .slice A ns.length ca, .slice K kids.length kc] 42))
  have hsz : nullS.size ≤ 100 := by decide
  have HCV := Lib.hid (cl_val hsz)
  have HC : Hid (∀ w, Calls Tryz.prog 119 #[.agg #[.int .i64 1, .bool f, .string t, .slice A ns.length ca, .slice K kids.length kc]] w fun e w' => e = .returned (.iface 145 (.agg #[])) ∧ Below w.heap.size w w') := fun w =>
    (valueOf_any 1 f t ns kids A K ca kc w l2 l4).mono fun e w' ⟨x, h1, h2, h3⟩ => by
      refine ⟨?_, h3⟩
      rcases h2 with ⟨_, rfl⟩ | ⟨h, _⟩
      · rw [h1]; unfold valJ; simp
      · exact absurd ⟨by unfold KindP; omega, (one_iff.1 hone).1⟩ h
  have x1 := as93
  clear hone hsz
  have wfn : ∀ k, Fence.wide.fn k := fun _ => trivial
  have wdp : Fence.wide.depth.isSome = false := rfl
  refine callsIn_of_wp Tryz.func124 rfl trivial ?_ rfl
  simp only [Tryz.ntmps124, List.size_toArray, List.length_cons, List.length_nil, Nat.reduceAdd, Nat.reduceSub, Array.replicate_succ, Array.replicate_zero, List.push_toArray, List.append_toArray, List.nil_append, List.cons_append]
  gi_wp2_with (gi_at_call 119; refine (callsIn_wide.2 (HC.out _)).mono ?_; rintro e w2 ⟨rfl, hb2⟩)
  obtain ⟨fn, tmps, assign, body, hy, hR⟩ := hY.y (m - 1) pre (cl nullS) (w2.alloc (.cells #[] 145)) (hY.j _ _ _ hJ ((HBX.out.trans (hb2.mono HBX.out.size)).trans ((below_box (w := w2) (.cells #[] 145)).mono (Nat.le_trans HBX.out.size hb2.size)))) hN
  rw [HCV.out] at hy
  simp only [nullS] at hy
  have HB2 := Lib.hid (hb.trans (((HBX.out.trans (hb2.mono HBX.out.size)).trans ((below_box (w := w2) (.cells #[] 145)).mono (Nat.le_trans HBX.out.size hb2.size))).mono hb.size))
  clear hb2
  rw [hy, Oper.uponIn_round]
  refine ⟨fun h => by simp [wdp] at h, ?_⟩
  refine hR.mono ?_
  clear hR hy
  rintro e W3 (⟨rfl, hJ3, hb3, _⟩ | ⟨rfl, hJ3⟩)
  · gi_wp2
    go_ret
    exact .inl ⟨rfl, hJ3, HB2.out.trans hb3⟩
  · gi_wp2
    go_ret
    exact .inr ⟨rfl, _, List.prefix_refl _, hJ3⟩

set_option maxRecDepth 100000 in
set_option maxHeartbeats 2000000 in
theorem yield2 {l N bb : Nat} {w0 : World} {J Jx : List Sub → World → Prop} (hY : YS l N bb w0 J Jx) (m : Nat) (f : Bool) (t : ByteArray) (ns : List ByteArray) (kids : List Js) (A K : Option Addr) (ca kc : Nat) (pre : List Sub) (W : World)
    (hone : OneP 2 f t ns kids) (l2 : ns.length ≤ 1048576) (l4 : kids.length ≤ 1048576) (hb : Below w0.heap.size w0 W) (hJ : J pre W) (hN : pre.length < N) :
    CallsIn Fence.wide m Tryz.prog 124 #[.agg #[.int .i64 2, .bool f, .string t, .slice A ns.length ca, .slice K kids.length kc], .func (.yield l) #[] #[]] W (YPost w0 J Jx pre [cl (if f = true then trueS else falseS)]) := by
  have HBX := Lib.hid (below_box (w := W) (.cells #[.int .i64 2, .bool f, .string t, .slice A ns.length ca, .slice K kids.length kc] 42))
  have hsz : (if f = true then trueS else falseS).size ≤ 100 := by cases f <;> decide
  have HCV := Lib.hid (cl_val hsz)
  have HC : Hid (∀ w, Calls Tryz.prog 119 #[.agg #[.int .i64 2, .bool f, .string t, .slice A ns.length ca, .slice K kids.length kc]] w fun e w' => e = .returned (.iface 146 (.bool f)) ∧ Below w.heap.size w w') := fun w =>
    (valueOf_any 2 f t ns kids A K ca kc w l2 l4).mono fun e w' ⟨x, h1, h2, h3⟩ => by
      refine ⟨?_, h3⟩
      rcases h2 with ⟨_, rfl⟩ | ⟨h, _⟩
      · rw [h1]; unfold valJ; simp
      · exact absurd ⟨by unfold KindP; omega, (one_iff.1 hone).1⟩ h
  have HFB : Hid (∀ w, Calls Tryz.prog 147 #[.bool f] w fun e w' => e = .returned (.string (if f = true then trueS else falseS)) ∧ w' = w) := fun w =>
    (Tryz.strconv_FormatBool f w).mono fun e w' ⟨h1, h2⟩ => ⟨by rw [h1]; cases f <;> rfl, h2⟩
  generalize (if f = true then trueS else falseS) = s at *
  have x1 := as94_93
  have x2 := as94
  clear hone hsz
  have wfn : ∀ k, Fence.wide.fn k := fun _ => trivial
  have wdp : Fence.wide.depth.isSome = false := rfl
  refine callsIn_of_wp Tryz.func124 rfl trivial ?_ rfl
  simp only [Tryz.ntmps124, List.size_toArray, List.length_cons, List.length_nil, Nat.reduceAdd, Nat.reduceSub, Array.replicate_succ, Array.replicate_zero, List.push_toArray, List.append_toArray, List.nil_append, List.cons_append]
  gi_wp2_with (first | (gi_at_call 119; refine (callsIn_wide.2 (HC.out _)).mono ?_; rintro e w2 ⟨rfl, hb2⟩) | (gi_at_call 147; refine (callsIn_wide.2 (HFB.out w2)).mono ?_; rintro e w3 ⟨rfl, rfl⟩))
  obtain ⟨fn, tmps, assign, body, hy, hR⟩ := hY.y (m - 1) pre (cl s) w3 (hY.j _ _ _ hJ (HBX.out.trans (hb2.mono HBX.out.size))) hN
  rw [HCV.out] at hy
  skip
  have HB2 := Lib.hid (hb.trans ((HBX.out.trans (hb2.mono HBX.out.size)).mono hb.size))
  clear hb2
  rw [hy, Oper.uponIn_round]
  refine ⟨fun h => by simp [wdp] at h, ?_⟩
  refine hR.mono ?_
  clear hR hy
  rintro e W3 (⟨rfl, hJ3, hb3, _⟩ | ⟨rfl, hJ3⟩)
  · gi_wp2
    go_ret
    exact .inl ⟨rfl, hJ3, HB2.out.trans hb3⟩
  · gi_wp2
    go_ret
    exact .inr ⟨rfl, _, List.prefix_refl _, hJ3⟩

set_option maxRecDepth 100000 in
set_option maxHeartbeats 2000000 in
theorem yield3 {l N bb : Nat} {w0 : World} {J Jx : List Sub → World → Prop} (hY : YS l N bb w0 J Jx) (m : Nat) (f : Bool) (t : ByteArray) (ns : List ByteArray) (kids : List Js) (A K : Option Addr) (ca kc : Nat) (pre : List Sub) (W : World)
    (hone : OneP 3 f t ns kids) (l2 : ns.length ≤ 1048576) (l4 : kids.length ≤ 1048576) (hb : Below w0.heap.size w0 W) (hJ : J pre W) (hN : pre.length < N) :
    CallsIn Fence.wide m Tryz.prog 124 #[.agg #[.int .i64 3, .bool f, .string t, .slice A ns.length ca, .slice K kids.length kc], .func (.yield l) #[] #[]] W (YPost w0 J Jx pre [cl t]) := by
  have HBX := Lib.hid (below_box (w := W) (.cells #[.int .i64 3, .bool f, .string t, .slice A ns.length ca, .slice K kids.length kc] 42))
  have hsz : t.size ≤ 100 := by rcases hone with h | h | h | h | h | h <;> first | omega | (have := num_len h.2.2.1; rw [bl_size]; omega)
  have HCV := Lib.hid (cl_val hsz)
  have HC : Hid (∀ w, Calls Tryz.prog 119 #[.agg #[.int .i64 3, .bool f, .string t, .slice A ns.length ca, .slice K kids.length kc]] w fun e w' => e = .returned (.iface 147 (.string t)) ∧ Below w.heap.size w w') := fun w =>
    (valueOf_any 3 f t ns kids A K ca kc w l2 l4).mono fun e w' ⟨x, h1, h2, h3⟩ => by
      refine ⟨?_, h3⟩
      rcases h2 with ⟨_, rfl⟩ | ⟨h, _⟩
      · rw [h1]; unfold valJ; simp
      · exact absurd ⟨by unfold KindP; omega, (one_iff.1 hone).1⟩ h
  have x1 := as95_93
  have x2 := as95_94
  have x3 := as95
  clear hone hsz
  have wfn : ∀ k, Fence.wide.fn k := fun _ => trivial
  have wdp : Fence.wide.depth.isSome = false := rfl
  refine callsIn_of_wp Tryz.func124 rfl trivial ?_ rfl
  simp only [Tryz.ntmps124, List.size_toArray, List.length_cons, List.length_nil, Nat.reduceAdd, Nat.reduceSub, Array.replicate_succ, Array.replicate_zero, List.push_toArray, List.append_toArray, List.nil_append, List.cons_append]
  gi_wp2_with (gi_at_call 119; refine (callsIn_wide.2 (HC.out _)).mono ?_; rintro e w2 ⟨rfl, hb2⟩)
  obtain ⟨fn, tmps, assign, body, hy, hR⟩ := hY.y (m - 1) pre (cl t) w2 (hY.j _ _ _ hJ (HBX.out.trans (hb2.mono HBX.out.size))) hN
  rw [HCV.out] at hy
  skip
  have HB2 := Lib.hid (hb.trans ((HBX.out.trans (hb2.mono HBX.out.size)).mono hb.size))
  clear hb2
  rw [hy, Oper.uponIn_round]
  refine ⟨fun h => by simp [wdp] at h, ?_⟩
  refine hR.mono ?_
  clear hR hy
  rintro e W3 (⟨rfl, hJ3, hb3, _⟩ | ⟨rfl, hJ3⟩)
  · gi_wp2
    go_ret
    exact .inl ⟨rfl, hJ3, HB2.out.trans hb3⟩
  · gi_wp2
    go_ret
    exact .inr ⟨rfl, _, List.prefix_refl _, hJ3⟩

set_option maxRecDepth 100000 in
set_option maxHeartbeats 2000000 in
theorem yield4 {l N bb : Nat} {w0 : World} {J Jx : List Sub → World → Prop} (hY : YS l N bb w0 J Jx) (m : Nat) (f : Bool) (t : ByteArray) (ns : List ByteArray) (kids : List Js) (A K : Option Addr) (ca kc : Nat) (pre : List Sub) (W : World)
    (hone : OneP 4 f t ns kids) (l2 : ns.length ≤ 1048576) (l4 : kids.length ≤ 1048576) (hb : Below w0.heap.size w0 W) (hJ : J pre W) (hN : pre.length < N) :
    CallsIn Fence.wide m Tryz.prog 124 #[.agg #[.int .i64 4, .bool f, .string t, .slice A ns.length ca, .slice K kids.length kc], .func (.yield l) #[] #[]] W (YPost w0 J Jx pre [cl (quoS t)]) := by
  have HBX := Lib.hid (below_box (w := W) (.cells #[.int .i64 4, .bool f, .string t, .slice A ns.length ca, .slice K kids.length kc] 42))
  have hsz : (quoS t).size ≤ 100 := by rcases hone with h | h | h | h | h | h <;> first | omega | (have := h.2.2.1.1; unfold quoS; rw [sz_append, sz_append]; have e1 : (⟨#[34]⟩ : ByteArray).size = 1 := rfl; omega)
  have HCV := Lib.hid (cl_val hsz)
  have HC : Hid (∀ w, Calls Tryz.prog 119 #[.agg #[.int .i64 4, .bool f, .string t, .slice A ns.length ca, .slice K kids.length kc]] w fun e w' => e = .returned (.iface 148 (.string t)) ∧ Below w.heap.size w w') := fun w =>
    (valueOf_any 4 f t ns kids A K ca kc w l2 l4).mono fun e w' ⟨x, h1, h2, h3⟩ => by
      refine ⟨?_, h3⟩
      rcases h2 with ⟨_, rfl⟩ | ⟨h, _⟩
      · rw [h1]; unfold valJ; simp
      · exact absurd ⟨by unfold KindP; omega, (one_iff.1 hone).1⟩ h
  have ht20 : t.size ≤ 20 := by rcases hone with h | h | h | h | h | h <;> first | omega | exact h.2.2.1.1
  have x1 := as96_93
  have x2 := as96_94
  have x3 := as96_95
  have x4 := as96
  clear hone hsz
  have wfn : ∀ k, Fence.wide.fn k := fun _ => trivial
  have wdp : Fence.wide.depth.isSome = false := rfl
  refine callsIn_of_wp Tryz.func124 rfl trivial ?_ rfl
  simp only [Tryz.ntmps124, List.size_toArray, List.length_cons, List.length_nil, Nat.reduceAdd, Nat.reduceSub, Array.replicate_succ, Array.replicate_zero, List.push_toArray, List.append_toArray, List.nil_append, List.cons_append]
  gi_wp2_with (gi_at_call 119; refine (callsIn_wide.2 (HC.out _)).mono ?_; rintro e w2 ⟨rfl, hb2⟩)
  obtain ⟨fn, tmps, assign, body, hy, hR⟩ := hY.y (m - 1) pre (cl (quoS t)) w2 (hY.j _ _ _ hJ (HBX.out.trans (hb2.mono HBX.out.size))) hN
  rw [HCV.out] at hy
  unfold quoS at hy
  have HB2 := Lib.hid (hb.trans ((HBX.out.trans (hb2.mono HBX.out.size)).mono hb.size))
  clear hb2
  rw [hy, Oper.uponIn_round]
  refine ⟨fun h => by simp [wdp] at h, ?_⟩
  refine hR.mono ?_
  clear hR hy
  rintro e W3 (⟨rfl, hJ3, hb3, _⟩ | ⟨rfl, hJ3⟩)
  · gi_wp2
    go_ret
    exact .inl ⟨rfl, hJ3, HB2.out.trans hb3⟩
  · gi_wp2
    go_ret
    exact .inr ⟨rfl, _, List.prefix_refl _, hJ3⟩

end Go.Proofs.YtkhcappjhefkjaaGreatDoor

