/- An item waits for a head from a place on: await. -/
import Derived.Test.YtafldjbmheopjaaG1
import Derived.Test.YtafldjbmheopjaaK8
namespace Go.Proofs.Ytafldjbmheopjaa
open Go.RowKit
set_option linter.unusedVariables false

/-- What await may turn: the map, and rows of items. -/
structure AwF (base bm : Nat) (cs : List Nat) (w w' : World) : Prop where
  os : w'.os = w.os
  tape : w'.tape = w.tape
  output : w'.output = w.output
  size : w.heap.size ≤ w'.heap.size
  block : ∀ k, k < w.heap.size → k ≠ bm → (∀ cur, w.heap[k]? = some (.cells cur 54 (0, 0)) → base ≤ k → k ∈ cs) → w'.heap[k]? = w.heap[k]?

theorem GM.less {w : World} {base bm n : Nat} {cs ds : List Nat} (h : GM w base bm n cs) (hd : ∀ d ∈ ds, d ∈ cs) : GM w base bm n ds := by
  obtain ⟨es, clock, hb, F, hs, hbb, hc, hap⟩ := h
  exact ⟨es, clock, hb, F, hs, hbb, fun x hx b hb hm => hc x hx b hb (hd b hm), hap⟩

set_option maxRecDepth 100000 in
set_option maxHeartbeats 4000000 in
theorem await_any (bb bm base n : Nat) (cs : List Nat) (x y : Int) (it : Sy) (w : World) (hc : w.cell? ⟨bb, 4, none⟩ = some (.map (some bm))) (hG : GM w base bm n cs) (hn : n < 900000000) (hcs : ∀ c ∈ cs, c < w.heap.size) (hbase : base ≤ w.heap.size) (hbb : bb < base) (hne : bb ≠ bm)
    (wx : (Lit.int .i64 x).wf = true) (wy : (Lit.int .i64 y).wf = true) :
    Calls Try.prog 48 #[.pointer (some ⟨bb, 0, none⟩), .int .i64 x, .int .i64 y, .agg #[.int .i64 it.head, .int .i64 it.low, .int .i64 it.high]] w fun e w' => ∃ r : Int, e = .returned (.int .i64 r) ∧ GM w' base bm (n + 1) cs ∧ AwF base bm cs w w' := by
  obtain ⟨i0, hi0, hz0, hz1, hz2⟩ := info_parts info58
  have HI := Lib.hid (And.intro hi0 (And.intro hz0 (And.intro hz1 hz2)))
  clear hi0 hz0 hz1 hz2
  have hbmlt := hG.lt
  have hb0 : Below w.heap.size w ((w.alloc (.cells #[.int .i64 it.head, .int .i64 it.low, .int .i64 it.high] 54)).alloc (.cells #[.int .i64 x, .int .i64 y] 111)) := (below_box _).alloc (by simp) _
  have hsW : ((w.alloc (.cells #[.int .i64 it.head, .int .i64 it.low, .int .i64 it.high] 54)).alloc (.cells #[.int .i64 x, .int .i64 y] 111)).heap.size = w.heap.size + 2 := by simp
  have c4 := cell_keep hb0 hc
  have q0 : ((w.alloc (.cells #[.int .i64 it.head, .int .i64 it.low, .int .i64 it.high] 54)).alloc (.cells #[.int .i64 x, .int .i64 y] 111)).cell? ⟨w.heap.size + 1, 0, none⟩ = some (.int .i64 x) := by simp
  have q1 : ((w.alloc (.cells #[.int .i64 it.head, .int .i64 it.low, .int .i64 it.high] 54)).alloc (.cells #[.int .i64 x, .int .i64 y] 111)).cell? ⟨w.heap.size + 1, 1, none⟩ = some (.int .i64 y) := by simp
  have i0' : ((w.alloc (.cells #[.int .i64 it.head, .int .i64 it.low, .int .i64 it.high] 54)).alloc (.cells #[.int .i64 x, .int .i64 y] 111)).cell? ⟨w.heap.size, 0, none⟩ = some (.int .i64 it.head) := by simp
  have i1' : ((w.alloc (.cells #[.int .i64 it.head, .int .i64 it.low, .int .i64 it.high] 54)).alloc (.cells #[.int .i64 x, .int .i64 y] 111)).cell? ⟨w.heap.size, 1, none⟩ = some (.int .i64 it.low) := by simp
  have i2' : ((w.alloc (.cells #[.int .i64 it.head, .int .i64 it.low, .int .i64 it.high] 54)).alloc (.cells #[.int .i64 x, .int .i64 y] 111)).cell? ⟨w.heap.size, 2, none⟩ = some (.int .i64 it.high) := by simp
  have hGW := (((hG.more (q := w.heap.size) (Nat.le_refl _)).more (q := w.heap.size + 1) (by omega)).more (q := w.heap.size + 2) (by omega)).keep hb0
  go_enter Try.func48, Try.ntmps48
  go_wp2_with fail
  generalize hW : (w.alloc (.cells #[.int .i64 it.head, .int .i64 it.low, .int .i64 it.high] 54)).alloc (.cells #[.int .i64 x, .int .i64 y] 111) = W at *
  clear hW
  have SALL0 := Lib.hid (And.intro c4 (And.intro q0 (And.intro q1 (And.intro i0' (And.intro i1' i2')))))
  have hb1 : Below W.heap.size W (W.alloc (.cells #[.int .i64 it.head, .int .i64 it.low, .int .i64 it.high] 54)).drew := (below_box _).drew
  have SALL1 := Lib.hid (And.intro (cell_keep hb1 c4) (And.intro (cell_keep hb1 q0) (And.intro (cell_keep hb1 q1) (And.intro (cell_keep hb1 i0') (And.intro (cell_keep hb1 i1') (cell_keep hb1 i2'))))))
  have hn0 : (W.alloc (.cells #[.int .i64 it.head, .int .i64 it.low, .int .i64 it.high] 54)).drew.cell? ⟨W.heap.size, 0, none⟩ = some (.int .i64 it.head) := by simp
  have hn1 : (W.alloc (.cells #[.int .i64 it.head, .int .i64 it.low, .int .i64 it.high] 54)).drew.cell? ⟨W.heap.size, 1, none⟩ = some (.int .i64 it.low) := by simp
  have hn2 : (W.alloc (.cells #[.int .i64 it.head, .int .i64 it.low, .int .i64 it.high] 54)).drew.cell? ⟨W.heap.size, 2, none⟩ = some (.int .i64 it.high) := by simp
  have hs1 : (W.alloc (.cells #[.int .i64 it.head, .int .i64 it.low, .int .i64 it.high] 54)).drew.heap.size = W.heap.size + 1 := by simp
  obtain ⟨v0, st, its, X2, hrun, hgE, hsz, hil, hiv, hvbm, hvcs, hback⟩ := (hGW.keep hb1).entry (by omega) wx wy (fun c hc' => by
    rw [hs1, hsW]
    simp only [List.mem_cons] at hc'
    rcases hc' with rfl | rfl | rfl | h
    · omega
    · omega
    · omega
    · have := hcs c h; omega)
  obtain ⟨A0, a0, rfl⟩ := own_form hiv
  have kpE : ∀ p : Addr, ∀ u, p.block ≠ bm → (W.alloc (.cells #[.int .i64 it.head, .int .i64 it.low, .int .i64 it.high] 54)).drew.cell? p = some u → X2.cell? p = some u := fun p u hp hu => (World.cell?_of_block (hgE.block p.block (cell_lt hu) (fun e => hp (by injection e)))).trans hu
  have SALL2 := Lib.hid (And.intro (kpE _ _ hne (cell_keep hb1 c4)) (And.intro (kpE _ _ (by simp; omega) (cell_keep hb1 q0)) (And.intro (kpE _ _ (by simp; omega) (cell_keep hb1 q1)) (And.intro (kpE _ _ (by simp; omega) (cell_keep hb1 i0')) (And.intro (kpE _ _ (by simp; omega) (cell_keep hb1 i1')) (kpE _ _ (by simp; omega) (cell_keep hb1 i2')))))))
  have HNEW : Hid (∀ j u, ([.int .i64 it.head, .int .i64 it.low, .int .i64 it.high] : List Value)[j]? = some u → X2.cell? ((⟨W.heap.size, 0, none⟩ : Addr).add j) = some u) := fun j u hu => by
    have e1 : (Addr.add ⟨W.heap.size, 0, none⟩ j) = ⟨W.heap.size, j, none⟩ := by unfold Addr.add; split <;> simp_all
    rw [e1]
    refine kpE _ _ (by simp; omega) ?_
    match j, hu with
    | 0, hu => simp only [List.getElem?_cons_zero, Option.some.injEq] at hu; rw [← hu]; exact hn0
    | 1, hu => simp only [List.getElem?_cons_succ, List.getElem?_cons_zero, Option.some.injEq] at hu; rw [← hu]; exact hn1
    | 2, hu => simp only [List.getElem?_cons_succ, List.getElem?_cons_zero, Option.some.injEq] at hu; rw [← hu]; exact hn2
    | (m + 3), hu => simp at hu
  have HBS : Hid (base ≤ X2.heap.size) := by show _ ≤ _; rw [hsz, hs1, hsW]; omega
  have HV0 := Lib.hid hiv
  have hrow : ∀ b, (Value.slice A0 its.length a0).ownBlock = some b → base ≤ b ∧ b ≠ w.heap.size ∧ b ≠ w.heap.size + 1 ∧ b ∉ cs := fun b hb => by
    have h1 := hvcs b hb
    simp only [List.mem_cons, not_or] at h1
    exact ⟨(World.ownsRow.lt hiv b hb).1, h1.2.2.1, h1.2.1, h1.2.2.2⟩
  have KP2 : Hid (∀ w5 : World, X2.grownBy w5 (Value.slice A0 its.length a0).ownBlock → (w5.cell? ⟨bb, 4, none⟩ = some (.map (some bm)) ∧ w5.cell? ⟨w.heap.size + 1, 0, none⟩ = some (.int .i64 x) ∧ w5.cell? ⟨w.heap.size + 1, 1, none⟩ = some (.int .i64 y) ∧ w5.cell? ⟨w.heap.size, 0, none⟩ = some (.int .i64 it.head) ∧ w5.cell? ⟨w.heap.size, 1, none⟩ = some (.int .i64 it.low) ∧ w5.cell? ⟨w.heap.size, 2, none⟩ = some (.int .i64 it.high))) := fun w5 hg => by
    have kp : ∀ p : Addr, ∀ u, (∀ b, (Value.slice A0 its.length a0).ownBlock = some b → b ≠ p.block) → X2.cell? p = some u → w5.cell? p = some u := fun p u hp hu => (World.cell?_of_block (hg.block p.block (cell_lt hu) (fun e => hp _ e.symm rfl))).trans hu
    obtain ⟨s0, s1, s2, s3, s4, s5⟩ := SALL2.out
    exact ⟨kp _ _ (fun b hb => by have := hrow b hb; simp; omega) s0, kp _ _ (fun b hb => by have := hrow b hb; simp; omega) s1, kp _ _ (fun b hb => by have := hrow b hb; simp; omega) s2, kp _ _ (fun b hb => by have := hrow b hb; simp; omega) s3, kp _ _ (fun b hb => by have := hrow b hb; simp; omega) s4, kp _ _ (fun b hb => by have := hrow b hb; simp; omega) s5⟩
  have KP3 : Hid (∀ w5 w6 : World, (w5.cell? ⟨bb, 4, none⟩ = some (.map (some bm)) ∧ w5.cell? ⟨w.heap.size + 1, 0, none⟩ = some (.int .i64 x) ∧ w5.cell? ⟨w.heap.size + 1, 1, none⟩ = some (.int .i64 y) ∧ w5.cell? ⟨w.heap.size, 0, none⟩ = some (.int .i64 it.head) ∧ w5.cell? ⟨w.heap.size, 1, none⟩ = some (.int .i64 it.low) ∧ w5.cell? ⟨w.heap.size, 2, none⟩ = some (.int .i64 it.high)) → w5.grownBy w6 (some bm) → (w6.cell? ⟨bb, 4, none⟩ = some (.map (some bm)) ∧ w6.cell? ⟨w.heap.size + 1, 0, none⟩ = some (.int .i64 x) ∧ w6.cell? ⟨w.heap.size + 1, 1, none⟩ = some (.int .i64 y) ∧ w6.cell? ⟨w.heap.size, 0, none⟩ = some (.int .i64 it.head) ∧ w6.cell? ⟨w.heap.size, 1, none⟩ = some (.int .i64 it.low) ∧ w6.cell? ⟨w.heap.size, 2, none⟩ = some (.int .i64 it.high))) := fun w5 w6 hs hg => by
    have kp : ∀ p : Addr, ∀ u, p.block ≠ bm → w5.cell? p = some u → w6.cell? p = some u := fun p u hp hu => (World.cell?_of_block (hg.block p.block (cell_lt hu) (fun e => hp (by injection e)))).trans hu
    obtain ⟨s0, s1, s2, s3, s4, s5⟩ := hs
    exact ⟨kp _ _ hne s0, kp _ _ (by simp; omega) s1, kp _ _ (by simp; omega) s2, kp _ _ (by simp; omega) s3, kp _ _ (by simp; omega) s4, kp _ _ (by simp; omega) s5⟩
  have BACK : Hid (∀ (w5 : World) v' its', X2.grownBy w5 (Value.slice A0 its.length a0).ownBlock → itRow w5 base v' its' → its'.length ≤ n + 1 → (v'.ownBlock = (Value.slice A0 its.length a0).ownBlock ∨ ∃ g, v'.ownBlock = some g ∧ X2.heap.size ≤ g) → ∃ w6, (Instr.entryStore 89 (.map (some bm)) (goInt st) v').run Try.prog w5 = .ok () w6 ∧ GM w6 base bm (n + 1) cs ∧ w5.grownBy w6 (some bm)) := fun w5 v' its' h1 h2 h3 h4 => by
    obtain ⟨w6, h5, h6, h7⟩ := hback w5 v' its' h1 h2 h3 h4
    exact ⟨w6, h5, h6.less (fun d hd => by simp [hd]), h7⟩
  have FRM : Hid (∀ w5 w6 : World, X2.grownBy w5 (Value.slice A0 its.length a0).ownBlock → w5.grownBy w6 (some bm) → AwF base bm cs w w6.drew) := fun w5 w6 h1 h2 => by
    refine ⟨?_, ?_, ?_, ?_, fun k hk hkb hkc => ?_⟩
    · exact h2.os.trans (h1.os.trans (hgE.os.trans (hb1.os.trans hb0.os)))
    · exact h2.tape.trans (h1.tape.trans (hgE.tape.trans (hb1.tape.trans hb0.tape)))
    · exact h2.output.trans (h1.output.trans (hgE.output.trans (hb1.output.trans hb0.output)))
    · have e1 := h1.size
      have e2 := h2.size
      show w.heap.size ≤ w6.heap.size
      rw [hsz, hs1] at e1
      omega
    · have kX2 : X2.heap[k]? = w.heap[k]? := (hgE.block k (by rw [hs1]; omega) (fun e => hkb (by injection e))).trans ((hb1.block k (by omega)).trans (hb0.block k hk))
      have nrow : some k ≠ (Value.slice A0 its.length a0).ownBlock := fun e => by
        have h3 := hrow k e.symm
        rcases hiv.2 with ⟨h4, _⟩ | ⟨g, cp, cur, h4, h5, h6, _⟩
        · rw [h4] at e; cases e
        · rw [h4] at e
          injection e with e
          subst e
          exact h3.2.2.2 (hkc cur (kX2 ▸ h6) h5)
      exact (h2.block k (Nat.lt_of_lt_of_le (by rw [hsz, hs1]; omega) h1.size) (fun e => hkb (by injection e))).trans ((h1.block k (by rw [hsz, hs1]; omega) nrow).trans kX2)
  clear hsW hs1 hsz hG hGW hback hvbm hvcs hrow kpE hgE hb0 hb1 hcs hc c4 q0 q1 i0' i1' i2' hn0 hn1 hn2 hiv
  refine wp_region_held_drew (S := (fun X => X.cell? ⟨bb, 4, none⟩ = some (.map (some bm)) ∧ X.cell? ⟨w.heap.size + 1, 0, none⟩ = some (.int .i64 x) ∧ X.cell? ⟨w.heap.size + 1, 1, none⟩ = some (.int .i64 y) ∧ X.cell? ⟨w.heap.size, 0, none⟩ = some (.int .i64 it.head) ∧ X.cell? ⟨w.heap.size, 1, none⟩ = some (.int .i64 it.low) ∧ X.cell? ⟨w.heap.size, 2, none⟩ = some (.int .i64 it.high))) (by kernel_rfl) ?_ (fun hHeld => ?_)
  · exact SALL0.out
  (first
    | (refine held_take (i := 0) (v := ?_) rfl (by kernel_rfl) (by kernel_rfl) (by kernel_rfl) (fun _ _ _ h => h) (Or.inl ⟨rfl, ?_⟩) (by assumption) ?_; rotate_left; (intro X hSw; (try dsimp only at hSw); (go_simp <;> with_reducible rfl)))
    | (refine held_take (i := 0) (v := undef) rfl (by kernel_rfl) (by kernel_rfl) (by kernel_rfl) (fun _ _ _ h => h) (Or.inr ⟨rfl, rfl⟩) (by assumption) ?_)); simp only [Act.put, List.setIfInBounds_toArray, List.set_cons_zero, List.set_cons_succ]
  (first
    | (refine held_take (i := 1) (v := ?_) rfl (by kernel_rfl) (by kernel_rfl) (by kernel_rfl) (fun _ _ _ h => h) (Or.inl ⟨rfl, ?_⟩) (by assumption) ?_; rotate_left; (intro X hSw; (try dsimp only at hSw); (go_simp <;> with_reducible rfl)))
    | (refine held_take (i := 1) (v := undef) rfl (by kernel_rfl) (by kernel_rfl) (by kernel_rfl) (fun _ _ _ h => h) (Or.inr ⟨rfl, rfl⟩) (by assumption) ?_)); simp only [Act.put, List.setIfInBounds_toArray, List.set_cons_zero, List.set_cons_succ]
  (first
    | (refine held_take (i := 2) (v := ?_) rfl (by kernel_rfl) (by kernel_rfl) (by kernel_rfl) (fun _ _ _ h => h) (Or.inl ⟨rfl, ?_⟩) (by assumption) ?_; rotate_left; (intro X hSw; (try dsimp only at hSw); (go_simp <;> with_reducible rfl)))
    | (refine held_take (i := 2) (v := undef) rfl (by kernel_rfl) (by kernel_rfl) (by kernel_rfl) (fun _ _ _ h => h) (Or.inr ⟨rfl, rfl⟩) (by assumption) ?_)); simp only [Act.put, List.setIfInBounds_toArray, List.set_cons_zero, List.set_cons_succ]
  (first
    | (refine held_take (i := 3) (v := ?_) rfl (by kernel_rfl) (by kernel_rfl) (by kernel_rfl) (fun _ _ _ h => h) (Or.inl ⟨rfl, ?_⟩) (by assumption) ?_; rotate_left; (intro X hSw; (try dsimp only at hSw); (go_simp <;> with_reducible rfl)))
    | (refine held_take (i := 3) (v := undef) rfl (by kernel_rfl) (by kernel_rfl) (by kernel_rfl) (fun _ _ _ h => h) (Or.inr ⟨rfl, rfl⟩) (by assumption) ?_)); simp only [Act.put, List.setIfInBounds_toArray, List.set_cons_zero, List.set_cons_succ]
  (first
    | (refine held_take (i := 4) (v := ?_) rfl (by kernel_rfl) (by kernel_rfl) (by kernel_rfl) (fun _ _ _ h => h) (Or.inl ⟨rfl, ?_⟩) (by assumption) ?_; rotate_left; (intro X hSw; (try dsimp only at hSw); (go_simp <;> with_reducible rfl)))
    | (refine held_take (i := 4) (v := undef) rfl (by kernel_rfl) (by kernel_rfl) (by kernel_rfl) (fun _ _ _ h => h) (Or.inr ⟨rfl, rfl⟩) (by assumption) ?_)); simp only [Act.put, List.setIfInBounds_toArray, List.set_cons_zero, List.set_cons_succ]
  (first
    | (refine held_take (i := 5) (v := ?_) rfl (by kernel_rfl) (by kernel_rfl) (by kernel_rfl) (fun _ _ _ h => h) (Or.inl ⟨rfl, ?_⟩) (by assumption) ?_; rotate_left; (intro X hSw; (try dsimp only at hSw); (go_simp <;> with_reducible rfl)))
    | (refine held_take (i := 5) (v := undef) rfl (by kernel_rfl) (by kernel_rfl) (by kernel_rfl) (fun _ _ _ h => h) (Or.inr ⟨rfl, rfl⟩) (by assumption) ?_)); simp only [Act.put, List.setIfInBounds_toArray, List.set_cons_zero, List.set_cons_succ]
  refine wpAnyH_ready (rs := [6]) (by kernel_rfl) (by simp) ?_
  refine AllReadyH.cons rfl (fun K hK => ?_) AllReadyH.nil
  go_simp
  refine hK.out _ _ ?_ (fun hHeld => ?_)
  · exact SALL1.out
  clear hK K
  generalize hX1 : (W.alloc (.cells #[.int .i64 it.head, .int .i64 it.low, .int .i64 it.high] 54)).drew = X1 at *
  clear hX1
  refine wpAnyH_ready (rs := [7]) (by kernel_rfl) (by simp) ?_
  refine AllReadyH.cons rfl (fun K hK => ?_) AllReadyH.nil
  go_simp
  refine hK.out _ _ ?_ (fun hHeld => ?_)
  · exact SALL2.out
  clear hK K
  (first
    | (refine held_take (i := 8) (v := ?_) rfl (by kernel_rfl) (by kernel_rfl) (by kernel_rfl) (fun _ _ _ h => h) (Or.inl ⟨rfl, ?_⟩) (by assumption) ?_; rotate_left; (intro X hSw; (try dsimp only at hSw); (go_simp <;> with_reducible rfl)))
    | (refine held_take (i := 8) (v := undef) rfl (by kernel_rfl) (by kernel_rfl) (by kernel_rfl) (fun _ _ _ h => h) (Or.inr ⟨rfl, rfl⟩) (by assumption) ?_)); simp only [Act.put, List.setIfInBounds_toArray, List.set_cons_zero, List.set_cons_succ]
  (first
    | (refine held_take (i := 10) (v := ?_) rfl (by kernel_rfl) (by kernel_rfl) (by kernel_rfl) (fun _ _ _ h => h) (Or.inl ⟨rfl, ?_⟩) (by assumption) ?_; rotate_left; (intro X hSw; (try dsimp only at hSw); (go_simp <;> with_reducible rfl)))
    | (refine held_take (i := 10) (v := undef) rfl (by kernel_rfl) (by kernel_rfl) (by kernel_rfl) (fun _ _ _ h => h) (Or.inr ⟨rfl, rfl⟩) (by assumption) ?_)); simp only [Act.put, List.setIfInBounds_toArray, List.set_cons_zero, List.set_cons_succ]
  refine wpAnyH_ready (rs := [9]) (by kernel_rfl) (by simp) ?_
  refine AllReadyH.cons rfl (fun K hK => ?_) AllReadyH.nil
  refine step_own_v _ rfl _ _ 52 rfl base 54 i0 (.agg #[.int .i64 0, .int .i64 0, .int .i64 0]) 3 24 Try.underlying52 HI.out.1 HI.out.2.1 HI.out.2.2.1 HI.out.2.2.2 rfl (by decide) _ _ _ rfl HV0.out ⟨W.heap.size, 0, none⟩ 1 1 [.int .i64 it.head, .int .i64 it.low, .int .i64 it.high] rfl rfl HNEW.out ?d2 ?d3 ?d4 ?d5 ?_
  case d2 => (intro u hu; simp at hu; rcases hu with rfl | rfl | rfl <;> rfl)
  case d3 => unfold maxLen; omega
  case d4 => omega
  case d5 => exact HBS.out
  intro v5 w5 ho5 hg5 hat5
  obtain ⟨A5, a5, hv5⟩ := own_form ho5
  subst hv5
  have HS5 := Lib.hid (KP2.out w5 hg5)
  obtain ⟨w6, hst, hGM6, hg6⟩ := BACK.out w5 _ (its ++ [it]) hg5 (by show World.ownsRow _ _ _ _ _ _ _; rw [symCells_append, List.length_append]; exact ho5) (by simp; omega) (hat5.imp id (fun h => ⟨_, h, Nat.le_refl _⟩))
  have HS6 := Lib.hid (KP3.out w5 w6 HS5.out hg6)
  replace hst : (Instr.entryStore 89 (.map (some bm)) (.int .i64 (st : Int)) (.slice A5 (its.length + 1) a5)).run Try.prog w5 = .ok () w6 := hst
  refine hK.out _ _ ?_ (fun hHeld => ?_)
  · exact HS5.out
  clear hK K
  refine wpAnyH_ready (rs := [11]) (by kernel_rfl) (by simp) ?_
  refine AllReadyH.cons rfl (fun K hK => ?_) AllReadyH.nil
  go_simp
  refine hK.out _ _ ?_ (fun hHeld => ?_)
  · exact HS6.out
  clear hK K
  refine wpAnyH_done (by kernel_rfl) ?_ _
  have HFR := Lib.hid (FRM.out w5 w6 hg5 hg6)
  have HGM := Lib.hid hGM6
  obtain ⟨LA, lm, lc, hlm, hlook⟩ := hGM6.drew.look wx wy
  have HS7 : Hid (w6.drew.cell? ⟨bb, 4, none⟩ = some (.map (some bm)) ∧ w6.drew.cell? ⟨w.heap.size + 1, 0, none⟩ = some (.int .i64 x) ∧ w6.drew.cell? ⟨w.heap.size + 1, 1, none⟩ = some (.int .i64 y) ∧ (Instr.lookup 89 (.map (some bm)) (.agg #[.int .i64 x, .int .i64 y]) false).run Try.prog w6.drew = .ok (.slice LA lm lc) w6.drew) := ⟨HS6.out.1, HS6.out.2.1, HS6.out.2.2.1, hlook⟩
  clear hst hGM6 hg6 hg5 ho5 hat5 HS5 HS6 hHeld hlook hrun BACK KP2 KP3 FRM HV0 HNEW
  go_wp2
  refine wp_region_held_drew (S := (fun X => X.cell? ⟨bb, 4, none⟩ = some (.map (some bm)) ∧ X.cell? ⟨w.heap.size + 1, 0, none⟩ = some (.int .i64 x) ∧ X.cell? ⟨w.heap.size + 1, 1, none⟩ = some (.int .i64 y) ∧ (Instr.lookup 89 (.map (some bm)) (.agg #[.int .i64 x, .int .i64 y]) false).run Try.prog X = .ok (.slice LA lm lc) X)) (by kernel_rfl) ?_ (fun hHeld => ?_)
  · exact HS7.out
  (first
    | (refine held_take (i := 0) (v := ?_) rfl (by kernel_rfl) (by kernel_rfl) (by kernel_rfl) (fun _ _ _ h => h) (Or.inl ⟨rfl, ?_⟩) (by assumption) ?_; rotate_left; (intro X hSw; (try dsimp only at hSw); (go_simp <;> with_reducible rfl)))
    | (refine held_take (i := 0) (v := undef) rfl (by kernel_rfl) (by kernel_rfl) (by kernel_rfl) (fun _ _ _ h => h) (Or.inr ⟨rfl, rfl⟩) (by assumption) ?_)); simp only [Act.put, List.setIfInBounds_toArray, List.set_cons_zero, List.set_cons_succ]
  (first
    | (refine held_take (i := 1) (v := ?_) rfl (by kernel_rfl) (by kernel_rfl) (by kernel_rfl) (fun _ _ _ h => h) (Or.inl ⟨rfl, ?_⟩) (by assumption) ?_; rotate_left; (intro X hSw; (try dsimp only at hSw); (go_simp <;> with_reducible rfl)))
    | (refine held_take (i := 1) (v := undef) rfl (by kernel_rfl) (by kernel_rfl) (by kernel_rfl) (fun _ _ _ h => h) (Or.inr ⟨rfl, rfl⟩) (by assumption) ?_)); simp only [Act.put, List.setIfInBounds_toArray, List.set_cons_zero, List.set_cons_succ]
  (first
    | (refine held_take (i := 2) (v := ?_) rfl (by kernel_rfl) (by kernel_rfl) (by kernel_rfl) (fun _ _ _ h => h) (Or.inl ⟨rfl, ?_⟩) (by assumption) ?_; rotate_left; (intro X hSw; (try dsimp only at hSw); (go_simp <;> with_reducible rfl)))
    | (refine held_take (i := 2) (v := undef) rfl (by kernel_rfl) (by kernel_rfl) (by kernel_rfl) (fun _ _ _ h => h) (Or.inr ⟨rfl, rfl⟩) (by assumption) ?_)); simp only [Act.put, List.setIfInBounds_toArray, List.set_cons_zero, List.set_cons_succ]
  (first
    | (refine held_take (i := 3) (v := ?_) rfl (by kernel_rfl) (by kernel_rfl) (by kernel_rfl) (fun _ _ _ h => h) (Or.inl ⟨rfl, ?_⟩) (by assumption) ?_; rotate_left; (intro X hSw; (try dsimp only at hSw); (go_simp <;> with_reducible rfl)))
    | (refine held_take (i := 3) (v := undef) rfl (by kernel_rfl) (by kernel_rfl) (by kernel_rfl) (fun _ _ _ h => h) (Or.inr ⟨rfl, rfl⟩) (by assumption) ?_)); simp only [Act.put, List.setIfInBounds_toArray, List.set_cons_zero, List.set_cons_succ]
  (first
    | (refine held_take (i := 4) (v := ?_) rfl (by kernel_rfl) (by kernel_rfl) (by kernel_rfl) (fun _ _ _ h => h) (Or.inl ⟨rfl, ?_⟩) (by assumption) ?_; rotate_left; (intro X hSw; (try dsimp only at hSw); (go_simp <;> with_reducible rfl)))
    | (refine held_take (i := 4) (v := undef) rfl (by kernel_rfl) (by kernel_rfl) (by kernel_rfl) (fun _ _ _ h => h) (Or.inr ⟨rfl, rfl⟩) (by assumption) ?_)); simp only [Act.put, List.setIfInBounds_toArray, List.set_cons_zero, List.set_cons_succ]
  (first
    | (refine held_take (i := 5) (v := ?_) rfl (by kernel_rfl) (by kernel_rfl) (by kernel_rfl) (fun _ _ _ h => h) (Or.inl ⟨rfl, ?_⟩) (by assumption) ?_; rotate_left; (intro X hSw; (try dsimp only at hSw); (go_simp <;> with_reducible rfl)))
    | (refine held_take (i := 5) (v := undef) rfl (by kernel_rfl) (by kernel_rfl) (by kernel_rfl) (fun _ _ _ h => h) (Or.inr ⟨rfl, rfl⟩) (by assumption) ?_)); simp only [Act.put, List.setIfInBounds_toArray, List.set_cons_zero, List.set_cons_succ]
  (first
    | (refine held_take (i := 6) (v := ?_) rfl (by kernel_rfl) (by kernel_rfl) (by kernel_rfl) (fun _ _ _ h => h) (Or.inl ⟨rfl, ?_⟩) (by assumption) ?_; rotate_left; (intro X hSw; (try dsimp only at hSw); (go_simp <;> with_reducible rfl)))
    | (refine held_take (i := 6) (v := undef) rfl (by kernel_rfl) (by kernel_rfl) (by kernel_rfl) (fun _ _ _ h => h) (Or.inr ⟨rfl, rfl⟩) (by assumption) ?_)); simp only [Act.put, List.setIfInBounds_toArray, List.set_cons_zero, List.set_cons_succ]
  refine wpAnyH_ready (rs := [7]) (by kernel_rfl) (by simp) ?_
  refine AllReadyH.cons rfl (fun K hK => ?_) AllReadyH.nil
  go_simp
  refine hK.out _ _ ?_ (fun hHeld => ?_)
  · exact HS7.out
  clear hK K
  refine wpAnyH_done (by kernel_rfl) ?_ _
  go_wp2
  go_ret
  exact ⟨_, rfl, HGM.out.drew, HFR.out⟩
end Go.Proofs.Ytafldjbmheopjaa
