/- A drawn region whose last operation writes what an earlier one has read: the condition on the world holds up to that last operation ('z', which waits for each operation that is taken first). -/
import Derived.Test.YtmmafhibojipjaaDoorBase
namespace Go.Proofs.YtmmafhibojipjaaDoor
open Go
set_option linter.unusedVariables false

section
variable {P : Program} {ops : Array Oper} {Q : Exit → Act → World → Prop} {md : Region.Mode} {S : World → Prop} {z : Nat}

/-- Whatever order is picked; behind each operation but z, S holds. -/
def UpTo (P : Program) (md : Region.Mode) (ops : Array Oper) (Q : Exit → Act → World → Prop) (S : World → Prop) (z : Nat) : Nat → Array Bool → Act → World → Prop
  | 0, ls, a, w => Region.ready md ops ls = [] ∧ Q .normal a w
  | n + 1, ls, a, w => (Region.ready md ops ls = [] → Q .normal a w) ∧ ∀ i ∈ Region.ready md ops ls, wpOp P ops Q i (fun a' w' => (i = z ∨ S w') ∧ UpTo P md ops Q S z n (ls.setIfInBounds i true) a' w') a w

theorem UpTo.any : ∀ (n : Nat) (ls : Array Bool) (a : Act) (w : World), UpTo P md ops Q S z n ls a w → wpAny P md ops Q n ls a w
  | 0, _, _, _, h => h
  | n + 1, _, _, _, h => ⟨h.1, fun i hi => wpOp_mono (fun a' w' k => UpTo.any n _ a' w' k.2) (h.2 i hi)⟩

theorem UpTo.first {i : Nat} {oi oz : Oper} {v : Value} (hi : ops[i]? = some oi) (hsel : ∀ (j : Nat) (o : Oper) cs b, ops[j]? = some o → o.op ≠ .select cs b)
    (hQ : ∀ c a w, Q (.panic c) (a.put oi.dst v) w → Q (.panic c) a w) (hoz : ops[z]? = some oz) (hzi : ∃ e ∈ oz.after, Region.binds md e = true ∧ e.on = i) :
    ∀ (n : Nat) (ls : Array Bool) (a : Act) (w : World),
      (∀ j oj, ops[j]? = some oj → j ≠ i → ls.getD j true = false → (∀ e ∈ oj.after, Region.binds md e = true → e.on ≠ i) → oi.apart ops oj = true) →
      i ∈ Region.ready md ops ls → YieldsIf P ops S oi v a → S w →
      UpTo P md ops Q S z n (ls.setIfInBounds i true) (a.put oi.dst v) w → UpTo P md ops Q S z (n + 1) ls a w := by
  intro n
  induction n with
  | zero =>
    intro ls a w _ hr hy hS H
    refine ⟨fun h => by rw [h] at hr; exact absurd hr (by simp), fun j hj => ?_⟩
    by_cases e : j = i
    · subst e; exact hy.wpOp hi hS ⟨.inr hS, H⟩
    · have q := ready_mono hj e
      rw [H.1] at q
      exact absurd q (by simp)
  | succ n ih =>
    intro ls a w hfree hr hy hS H
    refine ⟨fun h => by rw [h] at hr; exact absurd hr (by simp), fun j hj => ?_⟩
    by_cases e : j = i
    · subst e; exact hy.wpOp hi hS ⟨.inr hS, H⟩
    · have q := H.2 j (ready_mono hj e)
      obtain ⟨hun, oj, hoj, hall⟩ := mem_ready.1 hj
      have hnot : ∀ e ∈ oj.after, Region.binds md e = true → e.on ≠ i := fun e' he hb heq => by
        have q1 := hall e' he hb
        have q0 := (mem_ready.1 hr).1
        rw [heq] at q1
        rcases Nat.lt_or_ge i ls.size with h' | h'
        · simp [h'] at q0 q1; rw [q0] at q1; cases q1
        · simp [Array.getElem?_eq_none h'] at q1
      have hjz : j ≠ z := fun ez => by
        subst ez
        rw [hoz] at hoj; injection hoj with hoj; subst hoj
        obtain ⟨e', he, hb, heq⟩ := hzi
        exact hnot e' he hb heq
      have q2 := wpOp_putIf hoj (hfree j oj hoj e hun hnot) (fun cs b => hsel i oi cs b hi) (fun cs b => hsel j oj cs b hoj) hQ hy q
      have hfree' : ∀ k ok, ops[k]? = some ok → k ≠ i → (ls.setIfInBounds j true).getD k true = false → (∀ e ∈ ok.after, Region.binds md e = true → e.on ≠ i) → oi.apart ops ok = true := fun k ok hk hki hu hno => by
        refine hfree k ok hk hki ?_ hno
        by_cases hjk : j = k
        · subst hjk; exact hun
        · rw [getD_set_ne true hjk] at hu; exact hu
      refine wpOp_mono (fun a' w' k => ⟨k.2.1, ih (ls.setIfInBounds j true) a' w' hfree' (ready_mono hr (Ne.symm e)) k.1 (k.2.1.resolve_left hjz) ?_⟩) q2
      rw [Array.setIfInBounds_comm _ _ e]
      exact k.2.2

theorem upto_take {l : List Oper} {i : Nat} {oi oz : Oper} {v : Value} {n : Nat} {ls : Array Bool} {a : Act} {w : World} (hi : l[i]? = some oi) (hoz : l[z]? = some oz)
    (hs : Region.noSelect l.toArray = true) (hf : Region.free md l.toArray ls i = true) (hr : (Region.ready md l.toArray ls).contains i = true) (hzi : (oz.after.any fun e => Region.binds md e && e.on == i) = true)
    (hQ : ∀ c a w, Q (.panic c) (a.put oi.dst v) w → Q (.panic c) a w) (hy : YieldsIf P l.toArray S oi v a) (hS : S w)
    (h : UpTo P md l.toArray Q S z n (ls.setIfInBounds i true) (a.put oi.dst v) w) : UpTo P md l.toArray Q S z (n + 1) ls a w := by
  have hi' : l.toArray[i]? = some oi := by simpa using hi
  obtain ⟨e, he, hb⟩ := Array.any_eq_true'.1 hzi
  simp only [Bool.and_eq_true, beq_iff_eq] at hb
  exact UpTo.first hi' (Region.noSelect_spec hs) hQ (by simpa using hoz) ⟨e, he, hb.1, hb.2⟩ n ls a w (Region.free_spec hi' hf) (by simpa using hr) hy hS h

/-- One operation comes up next. -/
theorem upto_ready {i : Nat} {o : Oper} {n : Nat} {ls : Array Bool} {a : Act} {w : World} (hr : Region.ready md ops ls = [i]) (ho : ops[i]? = some o)
    (h : ∀ K' : Act → World → Prop, Shut (∀ a w, S w → (S w → UpTo P md ops Q S z n (ls.setIfInBounds i true) a w) → K' a w) → if Region.wanted o (yielded ops a.tmps) = true then Oper.wp P o a w K' Q else K' (a.put o.dst undef) w) :
    UpTo P md ops Q S z (n + 1) ls a w :=
by
  refine ⟨fun h0 => absurd (hr.symm.trans h0) (by simp), fun j hj => ?_⟩
  rw [hr] at hj
  obtain rfl : j = i := by simpa using hj
  exact wpOp_step ho (fun K' hK => h K' (fun a w hS hW => hK a w ⟨.inr hS, hW hS⟩))
theorem upto_last {o : Oper} {n : Nat} {ls : Array Bool} {a : Act} {w : World} (hr : Region.ready md ops ls = [z]) (ho : ops[z]? = some o) (hd : Region.ready md ops (ls.setIfInBounds z true) = [])
    (h : ∀ K' : Act → World → Prop, Shut (∀ a w, Q .normal a w → K' a w) → if Region.wanted o (yielded ops a.tmps) = true then Oper.wp P o a w K' Q else K' (a.put o.dst undef) w) :
    UpTo P md ops Q S z (n + 1) ls a w :=
by
  refine ⟨fun h0 => absurd (hr.symm.trans h0) (by simp), fun j hj => ?_⟩
  rw [hr] at hj
  obtain rfl : j = z := by simpa using hj
  refine wpOp_step ho (fun K' hK => h K' (fun a w hQ => hK a w ⟨.inl rfl, ?_⟩))
  cases n with
  | zero => exact ⟨hd, hQ⟩
  | succ n => exact ⟨fun _ => hQ, by rw [hd]; simp⟩
theorem wp_region_upto {id : Nat} {a : Act} {w : World} (hm : P.follows .mixedOrders = true) (hS : S w.drew)
    (h : S w.drew → UpTo P .any ops Q S z ops.size (Array.replicate ops.size false) a w.drew) : (Code.region id ops true).wp P Q a w :=
  wp_region_any hm (UpTo.any _ _ _ _ (h hS))
end
end Go.Proofs.YtmmafhibojipjaaDoor
