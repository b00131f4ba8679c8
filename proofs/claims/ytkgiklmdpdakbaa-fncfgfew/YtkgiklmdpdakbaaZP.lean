/- How long the bodies are that are made of a grammar, plainly. -/
import Derived.Test.YtkgiklmdpdakbaaZ1
namespace Go.Proofs.Ytkgiklmdpdakbaa
set_option linter.unusedVariables false

/-- No body is long. -/
def SmL (s : Mk) : Prop := ∀ p ∈ s.list, p.body.length ≤ 3300
theorem SmL.put {s : Mk} (h : SmL s) (hd : Nat) {b : List Sy} (hb : b.length ≤ 3300) : SmL (s.put hd b) := by
  intro p hp
  rcases List.mem_append.1 hp with hp | hp
  · exact h p hp
  · rw [List.mem_singleton] at hp
    subst hp
    exact hb
theorem SmL.fresh {s : Mk} (h : SmL s) : SmL s.fresh := h
structure LvSm (rs : List Ru) (n : Nat) (L : Lv) : Prop where
  one : ∀ p s, p.ht ≤ n → OkP rs p → p.nodes ≤ 160 → SmL s → SmL (L.one p s).2
  body : ∀ p s, p.ht ≤ n → OkP rs p → p.nodes ≤ 160 → SmL s → SmL (L.body p s).2
theorem seqB_sm {rs : List Ru} {n : Nat} {L : Lv} (hS : LvSm rs n L) : ∀ (kids : List Pt) (a : List Sy × Mk), (∀ p ∈ kids, p.ht ≤ n ∧ OkP rs p ∧ p.nodes ≤ 160) → SmL a.2 → SmL (kids.foldl (seqStep L) a).2
  | [], a, _, h => h
  | p :: r, a, hk, h => by
    have hp := hk p (by simp)
    refine seqB_sm hS r (seqStep L a p) (fun q hq => hk q (List.mem_cons_of_mem _ hq)) ?_
    unfold seqStep
    split
    · exact h
    · exact hS.one p a.2 hp.1 hp.2.1 hp.2.2 h
theorem altB_sm {rs : List Ru} {n : Nat} {L : Lv} (hL : LvOk rs n L) (hS : LvSm rs n L) (h : Nat) : ∀ (kids : List Pt) (s : Mk), (∀ p ∈ kids, p.ht ≤ n ∧ OkP rs p ∧ p.nodes ≤ 160) → SmL s → SmL (altB L h kids s)
  | [], s, _, hs => hs
  | p :: r, s, hk, hs => by
    have hp := hk p (by simp)
    refine altB_sm hL hS h r (altStep L h s p) (fun q hq => hk q (List.mem_cons_of_mem _ hq)) ?_
    have := (hL.body p s hp.1 hp.2.1).2.1
    exact (hS.body p s hp.1 hp.2.1 hp.2.2 hs).put h (by omega)
theorem rangesB_sm (h : Nat) (lo hi : List Int) (n : Nat) (s : Mk) (hs : SmL s) : SmL (rangesB h lo hi n s) := by
  induction n with
  | zero => exact hs
  | succ n ih => rw [rangesB_succ]; exact ih.put h (by simp)
theorem timesB_sm (h : Nat) (x : Sy) (mn n : Nat) (s : Mk) (hs : SmL s) (hm : mn + n ≤ 3000) : SmL (timesB h x mn n s) := by
  induction n with
  | zero => exact hs
  | succ n ih => rw [timesB_succ]; exact (ih (by omega)).put h (by simp; omega)
theorem flatB_sm {rs : List Ru} {n : Nat} {L : Lv} (hS : LvSm rs n L) (p : Pt) (s : Mk) (hp : OkP rs p) (hh : p.ht ≤ n + 1) (hn : p.nodes ≤ 160) (hs : SmL s) : SmL (flatB rs L p s).2 := by
  cases hp with
  | mk k t lo hi kids mn mx ha hkids =>
  rw [ht_mk] at hh
  rw [nodes_mk] at hn
  unfold flatB
  simp only
  split
  · exact hs
  · split
    · exact seqB_sm hS kids ([], s) (fun p hp => ⟨Nat.le_trans (ht_mem hp) (by omega), hkids p hp, by have := nodesL_mem hp; omega⟩) hs
    · exact hs
theorem headB_sm {rs : List Ru} {n : Nat} {L : Lv} (hL : LvOk rs n L) (hS : LvSm rs n L) (h : Nat) (p : Pt) (s : Mk) (hp : OkP rs p) (hh : p.ht ≤ n + 1) (hn : p.nodes ≤ 160) (hs : SmL s) : SmL (headB rs L h p s) := by
  have hp' := hp
  have hh' := hh
  have hn' := hn
  cases hp with
  | mk k t lo hi kids mn mx ha hkids =>
  rw [ht_mk] at hh
  rw [nodes_mk] at hn
  have hkk : ∀ p ∈ kids, p.ht ≤ n ∧ OkP rs p ∧ p.nodes ≤ 160 := fun p hp => ⟨Nat.le_trans (ht_mem hp) (by omega), hkids p hp, by have := nodesL_mem hp; omega⟩
  unfold headB
  simp only
  by_cases h5 : k = 5
  · rw [if_pos h5]
    exact altB_sm hL hS h kids s hkk hs
  · rw [if_neg h5]
    by_cases h2 : k = 2
    · rw [if_pos h2]
      exact rangesB_sm h lo hi _ s hs
    · rw [if_neg h2]
      by_cases h6 : k = 6
      · rw [if_pos h6]
        have h6' : kids.length = 1 ∧ 0 ≤ mn ∧ mn ≤ 6 ∧ (mx = -1 ∨ (mn ≤ mx ∧ mx ≤ 6 ∧ 0 < mx)) := by rcases ha.2 with h | h | h | h | h | h <;> first | omega | exact h.2.2
        match kids, h6'.1, hkk with
        | [q], _, hkk =>
          have hq := hkk q (by simp)
          have h1 := hS.one q s hq.1 hq.2.1 hq.2.2 hs
          simp only
          unfold manyB
          split
          · exact ((h1.fresh.put _ (by simp)).put _ (by simp)).put h (by simp; omega)
          · exact timesB_sm h _ _ _ _ h1 (by omega)
      · rw [if_neg h6]
        have hk : k = 1 ∨ k = 3 ∨ k = 4 := by rcases ha.2 with h | h | h | h | h | h <;> omega
        have hl := (flatB_few hL (.mk k t lo hi kids mn mx) s hp' hh' hk).2
        exact (flatB_sm hS _ s hp' hh' hn' hs).put h (by omega)
theorem oneB_sm {rs : List Ru} {n : Nat} {L : Lv} (hL : LvOk rs n L) (hS : LvSm rs n L) (p : Pt) (s : Mk) (hp : OkP rs p) (hh : p.ht ≤ n + 1) (hn : p.nodes ≤ 160) (hs : SmL s) : SmL (oneB rs L p s).2 := by
  have h := headB_sm hL hS s.heads p s.fresh hp hh hn hs.fresh
  cases p with
  | mk k t lo hi kids mn mx =>
  unfold oneB
  simp only
  split
  · exact hs
  · split
    · exact hs
    · exact h
theorem lvl_sm (rs : List Ru) : ∀ n, LvSm rs n (lvl rs n)
  | 0 => ⟨fun p s h => by cases p; rw [ht_mk] at h; omega, fun p s h => by cases p; rw [ht_mk] at h; omega⟩
  | n + 1 => by
    refine ⟨fun p s h hp hn hs => oneB_sm (lvl_ok rs n) (lvl_sm rs n) p s hp h hn hs, fun p s h hp hn hs => ?_⟩
    show SmL (bodyB rs (lvl rs n) p s).2
    unfold bodyB
    split
    · exact flatB_sm (lvl_sm rs n) p s hp h hn hs
    · exact oneB_sm (lvl_ok rs n) (lvl_sm rs n) p s hp h hn hs
theorem rulesB_sm {rs : List Ru} (h : GramP rs) : ∀ i, i ≤ rs.length → SmL (rulesB rs (lvl rs 8) i ⟨rs.length, []⟩)
  | 0, _ => by intro p hp; simp [rulesB] at hp
  | i + 1, hi => by
    rw [rulesB_succ rs _ i _ hi]
    have hr := h.2.2.1 i hi
    exact headB_sm (lvl_ok rs 8) (lvl_sm rs 8) i _ _ hr.2.2.2 (by have := hr.2.2.1; omega) (Nat.le_trans (parts_mem hi) h.2.2.2) (rulesB_sm h i (by omega))

end Go.Proofs.Ytkgiklmdpdakbaa

