/- Productions of a grammar, plainly: what is made of a part, one part of a production or several, by levels of depth. -/
import Derived.Test.YtkgiklmdpdakbaaP13
import Derived.Test.YtkgiklmdpdakbaaC1
namespace Go.Proofs.Ytkgiklmdpdakbaa
set_option linter.unusedVariables false

/-- Productions that are being made: how many heads there are, and the productions so far. -/
structure Mk where
  heads : Nat
  list : List Pd
def Mk.put (s : Mk) (h : Nat) (b : List Sy) : Mk := ⟨s.heads, s.list ++ [⟨(h : Int), b⟩]⟩
def Mk.fresh (s : Mk) : Mk := ⟨s.heads + 1, s.list⟩
def byteSy (b : UInt8) : Sy := ⟨-1, b.toNat, b.toNat⟩
def textSy (t : ByteArray) : List Sy := t.data.toList.map byteSy
def headSy (h : Int) : Sy := ⟨h, 0, 0⟩
theorem textSy_length (t : ByteArray) : (textSy t).length = t.size := by
  show (t.data.toList.map byteSy).length = t.data.size
  simp

/-- The place of the first rule of a name. -/
noncomputable def ixOf (rs : List Ru) (t : ByteArray) : Int := Classical.choose (RuleIx.ex rs t)
theorem ixOf_is (rs : List Ru) (t : ByteArray) : RuleIx rs t (ixOf rs t) := Classical.choose_spec (RuleIx.ex rs t)

structure Lv where
  one : Pt → Mk → Sy × Mk
  body : Pt → Mk → List Sy × Mk

def Pt.text : Pt → ByteArray
  | .mk _ t _ _ _ _ _ => t

def seqStep (L : Lv) (a : List Sy × Mk) (p : Pt) : List Sy × Mk := if p.kind = 1 then (a.1 ++ textSy p.text, a.2) else (a.1 ++ [(L.one p a.2).1], (L.one p a.2).2)
def seqB (L : Lv) (kids : List Pt) (s : Mk) : List Sy × Mk := kids.foldl (seqStep L) ([], s)
def altStep (L : Lv) (h : Nat) (s : Mk) (p : Pt) : Mk := (L.body p s).2.put h (L.body p s).1
def altB (L : Lv) (h : Nat) (kids : List Pt) (s : Mk) : Mk := kids.foldl (altStep L h) s
def rangesB (h : Nat) (lo hi : List Int) (n : Nat) (s : Mk) : Mk := (List.range n).foldl (fun s i => s.put h [⟨-1, gi lo i, gi hi i⟩]) s
def timesB (h : Nat) (x : Sy) (mn n : Nat) (s : Mk) : Mk := (List.range n).foldl (fun s i => s.put h (List.replicate (mn + i) x)) s
def starB (h : Nat) (x : Sy) (mn : Nat) (s : Mk) : Mk := ((s.fresh.put s.heads []).put s.heads [x, headSy s.heads]).put h (List.replicate mn x ++ [headSy s.heads])
def manyB (L : Lv) (h : Nat) (p : Pt) (mn mx : Int) (s : Mk) : Mk := if mx = -1 then starB h (L.one p s).1 mn.toNat (L.one p s).2 else timesB h (L.one p s).1 mn.toNat ((mx - mn).toNat + 1) (L.one p s).2
noncomputable def flatB (rs : List Ru) (L : Lv) (p : Pt) (s : Mk) : List Sy × Mk :=
  match p with | .mk k t _ _ kids _ _ => if k = 1 then (textSy t, s) else if k = 4 then seqB L kids s else ([headSy (ixOf rs t)], s)
noncomputable def headB (rs : List Ru) (L : Lv) (h : Nat) (p : Pt) (s : Mk) : Mk :=
  match p with
  | .mk k t lo hi kids mn mx =>
    if k = 5 then altB L h kids s else if k = 2 then rangesB h lo hi lo.length s
    else if k = 6 then (match kids with | [] => s | q :: _ => manyB L h q mn mx s)
    else (flatB rs L (.mk k t lo hi kids mn mx) s).2.put h (flatB rs L (.mk k t lo hi kids mn mx) s).1
noncomputable def oneB (rs : List Ru) (L : Lv) (p : Pt) (s : Mk) : Sy × Mk :=
  match p with
  | .mk k t lo hi kids mn mx =>
    if k = 3 then (headSy (ixOf rs t), s) else if k = 2 ∧ lo.length = 1 then (⟨-1, gi lo 0, gi hi 0⟩, s)
    else (headSy s.heads, headB rs L s.heads (.mk k t lo hi kids mn mx) s.fresh)
noncomputable def bodyB (rs : List Ru) (L : Lv) (p : Pt) (s : Mk) : List Sy × Mk :=
  if p.kind = 1 ∨ p.kind = 4 then flatB rs L p s else ([(oneB rs L p s).1], (oneB rs L p s).2)
/-- What parts that are at most so high become. -/
noncomputable def lvl (rs : List Ru) : Nat → Lv
  | 0 => ⟨fun _ s => (headSy 0, s), fun _ s => ([], s)⟩
  | n + 1 => ⟨oneB rs (lvl rs n), bodyB rs (lvl rs n)⟩

/-- How much is made at most. -/
structure Few (s s' : Mk) (n : Nat) : Prop where
  h0 : s.heads ≤ s'.heads
  h : s'.heads ≤ s.heads + 2 * n
  l0 : s.list.length ≤ s'.list.length
  l : s'.list.length ≤ s.list.length + 300 * n
theorem Few.refl (s : Mk) (n : Nat) : Few s s n := ⟨Nat.le_refl _, Nat.le_add_right _ _, Nat.le_refl _, Nat.le_add_right _ _⟩
theorem Few.trans {s s' s'' : Mk} {n m k : Nat} (h : Few s s' n) (h' : Few s' s'' m) (hk : n + m ≤ k) : Few s s'' k := by
  obtain ⟨a1, a2, a3, a4⟩ := h
  obtain ⟨b1, b2, b3, b4⟩ := h'
  exact ⟨by omega, by omega, by omega, by omega⟩
theorem Few.up {s s' : Mk} {n m : Nat} (h : Few s s' n) (hm : n ≤ m) : Few s s' m := by
  obtain ⟨a1, a2, a3, a4⟩ := h
  exact ⟨a1, by omega, a3, by omega⟩
theorem put_heads (s : Mk) (h : Nat) (b : List Sy) : (s.put h b).heads = s.heads := rfl
theorem put_list (s : Mk) (h : Nat) (b : List Sy) : (s.put h b).list.length = s.list.length + 1 := by simp [Mk.put]

/-- What is known of a level: how much it makes. -/
structure LvOk (rs : List Ru) (n : Nat) (L : Lv) : Prop where
  one : ∀ p s, p.ht ≤ n → OkP rs p → Few s (L.one p s).2 p.nodes ∧ (L.one p s).2.list.length + 1 ≤ s.list.length + 300 * p.nodes
  body : ∀ p s, p.ht ≤ n → OkP rs p → Few s (L.body p s).2 p.nodes ∧ (L.body p s).1.length ≤ 20 * p.nodes ∧ (L.body p s).2.list.length + 1 ≤ s.list.length + 300 * p.nodes

theorem seqB_few {rs : List Ru} {n : Nat} {L : Lv} (hL : LvOk rs n L) : ∀ (kids : List Pt) (a : List Sy × Mk), (∀ p ∈ kids, p.ht ≤ n ∧ OkP rs p) → Few a.2 (kids.foldl (seqStep L) a).2 (nodesL kids) ∧ (kids.foldl (seqStep L) a).1.length ≤ a.1.length + 20 * nodesL kids
  | [], a, _ => ⟨.refl _ _, by simp [nodesL]⟩
  | p :: r, a, h => by
    have hp := h p (by simp)
    have ih := seqB_few hL r (seqStep L a p) fun q hq => h q (List.mem_cons_of_mem _ hq)
    have e : nodesL (p :: r) = p.nodes + nodesL r := by rw [nodesL]
    have h1 : Few a.2 (seqStep L a p).2 p.nodes ∧ (seqStep L a p).1.length ≤ a.1.length + 20 * p.nodes := by
      have hn := nodes_pos p
      unfold seqStep
      split
      · rename_i hk
        refine ⟨.refl _ _, ?_⟩
        have : p.text.size ≤ 20 := by
          cases p with
          | mk k t lo hi kids mn mx =>
          cases hp.2 with
          | mk _ _ _ _ _ _ _ ha _ =>
          simp only [Pt.kind] at hk
          rcases ha.2 with h | h | h | h | h | h
          · exact h.2.2.1
          all_goals omega
        simp only [List.length_append, textSy_length]
        omega
      · exact ⟨(hL.one p a.2 hp.1 hp.2).1, by simp; omega⟩
    rw [List.foldl_cons, e]
    exact ⟨h1.1.trans ih.1 (Nat.le_refl _), by omega⟩
theorem altB_few {rs : List Ru} {n : Nat} {L : Lv} (hL : LvOk rs n L) (h : Nat) : ∀ (kids : List Pt) (s : Mk), (∀ p ∈ kids, p.ht ≤ n ∧ OkP rs p) → s.heads ≤ (altB L h kids s).heads ∧ (altB L h kids s).heads ≤ s.heads + 2 * nodesL kids ∧ s.list.length ≤ (altB L h kids s).list.length ∧ (altB L h kids s).list.length ≤ s.list.length + 300 * nodesL kids
  | [], s, _ => by simp [altB, nodesL]
  | p :: r, s, hk => by
    have hp := hk p (by simp)
    have ih := altB_few hL h r (altStep L h s p) fun q hq => hk q (List.mem_cons_of_mem _ hq)
    have e : nodesL (p :: r) = p.nodes + nodesL r := by rw [nodesL]
    obtain ⟨⟨b1, b2, b3, b4⟩, _, b5⟩ := hL.body p s hp.1 hp.2
    have e1 : (altStep L h s p).heads = (L.body p s).2.heads := rfl
    have e2 : (altStep L h s p).list.length = (L.body p s).2.list.length + 1 := put_list _ _ _
    have e3 : altB L h (p :: r) s = altB L h r (altStep L h s p) := rfl
    rw [e3, e]
    omega
theorem rangesB_len (h : Nat) (lo hi : List Int) (n : Nat) (s : Mk) : (rangesB h lo hi n s).heads = s.heads ∧ (rangesB h lo hi n s).list.length = s.list.length + n := by
  induction n with
  | zero => exact ⟨rfl, rfl⟩
  | succ n ih =>
    unfold rangesB at ih ⊢
    rw [List.range_succ, List.foldl_append]
    simp only [List.foldl_cons, List.foldl_nil, put_heads, put_list]
    omega
theorem rangesB_succ (h : Nat) (lo hi : List Int) (n : Nat) (s : Mk) : rangesB h lo hi (n + 1) s = (rangesB h lo hi n s).put h [⟨-1, gi lo n, gi hi n⟩] := by
  unfold rangesB
  rw [List.range_succ, List.foldl_append]
  rfl
theorem timesB_succ (h : Nat) (x : Sy) (mn n : Nat) (s : Mk) : timesB h x mn (n + 1) s = (timesB h x mn n s).put h (List.replicate (mn + n) x) := by
  unfold timesB
  rw [List.range_succ, List.foldl_append]
  rfl
theorem timesB_len (h : Nat) (x : Sy) (mn n : Nat) (s : Mk) : (timesB h x mn n s).heads = s.heads ∧ (timesB h x mn n s).list.length = s.list.length + n := by
  induction n with
  | zero => exact ⟨rfl, rfl⟩
  | succ n ih =>
    rw [timesB_succ, put_heads, put_list]
    omega
theorem class_len {lo hi : List Int} (h : ClassP lo hi) : lo.length ≤ 256 := by
  have h1 : ∀ u, u < lo.length → (u : Int) ≤ gi lo u := by
    intro u
    induction u with
    | zero => intro hu; exact (h.2.2 0 hu).1
    | succ u ih =>
      intro hu
      have a := ih (by omega)
      have b := (h.2.2 u (by omega)).2.2.1
      have c := (h.2.2 (u + 1) hu).2.2.2.2 (by omega)
      simp only [Nat.add_sub_cancel] at c
      omega
  have h0 := h.1
  have a := h1 (lo.length - 1) (by omega)
  have b := (h.2.2 (lo.length - 1) (by omega)).2.1
  omega

theorem flatB_few {rs : List Ru} {n : Nat} {L : Lv} (hL : LvOk rs n L) (p : Pt) (s : Mk) (hp : OkP rs p) (hh : p.ht ≤ n + 1) (hk : p.kind = 1 ∨ p.kind = 3 ∨ p.kind = 4) :
    Few s (flatB rs L p s).2 (p.nodes - 1) ∧ (flatB rs L p s).1.length ≤ 20 * p.nodes := by
  cases hp with
  | mk k t lo hi kids mn mx ha hkids =>
  rw [ht_mk] at hh
  have hn : (Pt.mk k t lo hi kids mn mx).nodes = nodesL kids + 1 := nodes_mk
  simp only [Pt.kind] at hk
  unfold flatB
  simp only
  rw [hn]
  by_cases h1 : k = 1
  · rw [if_pos h1]
    refine ⟨.refl _ _, ?_⟩
    rw [textSy_length]
    rcases ha.2 with h | h | h | h | h | h <;> omega
  · rw [if_neg h1]
    by_cases h4 : k = 4
    · rw [if_pos h4]
      have := seqB_few hL kids ([], s) fun p hp => ⟨Nat.le_trans (ht_mem hp) (by omega), hkids p hp⟩
      refine ⟨this.1, ?_⟩
      have h2 := this.2
      simp only [List.length_nil] at h2
      show (kids.foldl (seqStep L) ([], s)).1.length ≤ _
      omega
    · rw [if_neg h4]
      exact ⟨.refl _ _, by simp; omega⟩

theorem headB_few {rs : List Ru} {n : Nat} {L : Lv} (hL : LvOk rs n L) (h : Nat) (p : Pt) (s : Mk) (hp : OkP rs p) (hh : p.ht ≤ n + 1) :
    s.heads ≤ (headB rs L h p s).heads ∧ (headB rs L h p s).heads ≤ s.heads + 2 * p.nodes - 1 ∧ s.list.length ≤ (headB rs L h p s).list.length ∧ (headB rs L h p s).list.length + 1 ≤ s.list.length + 300 * p.nodes := by
  cases hp with
  | mk k t lo hi kids mn mx ha hkids =>
  have hh' := hh
  rw [ht_mk] at hh'
  have hn : (Pt.mk k t lo hi kids mn mx).nodes = nodesL kids + 1 := nodes_mk
  have hkk : ∀ p ∈ kids, p.ht ≤ n ∧ OkP rs p := fun p hp => ⟨Nat.le_trans (ht_mem hp) (by omega), hkids p hp⟩
  unfold headB
  simp only
  rw [hn]
  by_cases h5 : k = 5
  · rw [if_pos h5]
    have := altB_few hL h kids s hkk
    omega
  · rw [if_neg h5]
    by_cases h2 : k = 2
    · rw [if_pos h2]
      have := rangesB_len h lo hi lo.length s
      have hc : ClassP lo hi := by rcases ha.2 with h | h | h | h | h | h <;> first | omega | exact h.2.2.2
      have := class_len hc
      omega
    · rw [if_neg h2]
      by_cases h6 : k = 6
      · rw [if_pos h6]
        have h6' : kids.length = 1 ∧ 0 ≤ mn ∧ mn ≤ 6 ∧ (mx = -1 ∨ (mn ≤ mx ∧ mx ≤ 6 ∧ 0 < mx)) := by rcases ha.2 with h | h | h | h | h | h <;> first | omega | exact h.2.2
        match kids, h6'.1, hkk with
        | [q], _, hkk =>
          have hq := hkk q (by simp)
          obtain ⟨⟨b1, b2, b3, b4⟩, b5⟩ := hL.one q s hq.1 hq.2
          have e : nodesL [q] = q.nodes := by simp [nodesL]
          rw [e]
          simp only
          unfold manyB
          split
          · unfold starB
            simp only [put_heads, put_list, Mk.fresh]
            omega
          · have := timesB_len h (L.one q s).1 mn.toNat ((mx - mn).toNat + 1) (L.one q s).2
            omega
      · rw [if_neg h6]
        have hk : k = 1 ∨ k = 3 ∨ k = 4 := by rcases ha.2 with h | h | h | h | h | h <;> omega
        obtain ⟨⟨b1, b2, b3, b4⟩, _⟩ := flatB_few hL (.mk k t lo hi kids mn mx) s (.mk k t lo hi kids mn mx ha hkids) hh hk
        simp only [put_heads, put_list]
        omega
theorem oneB_few {rs : List Ru} {n : Nat} {L : Lv} (hL : LvOk rs n L) (p : Pt) (s : Mk) (hp : OkP rs p) (hh : p.ht ≤ n + 1) : Few s (oneB rs L p s).2 p.nodes ∧ (oneB rs L p s).2.list.length + 1 ≤ s.list.length + 300 * p.nodes := by
  have hd := headB_few hL s.heads p s.fresh hp hh
  cases hp with
  | mk k t lo hi kids mn mx ha hkids =>
  have hn := nodes_pos (Pt.mk k t lo hi kids mn mx)
  unfold oneB
  simp only
  split
  · exact ⟨.refl _ _, by simp only; omega⟩
  · split
    · exact ⟨.refl _ _, by simp only; omega⟩
    · simp only [Mk.fresh] at hd ⊢
      exact ⟨⟨by omega, by omega, by omega, by omega⟩, by omega⟩
theorem bodyB_few {rs : List Ru} {n : Nat} {L : Lv} (hL : LvOk rs n L) (p : Pt) (s : Mk) (hp : OkP rs p) (hh : p.ht ≤ n + 1) : Few s (bodyB rs L p s).2 p.nodes ∧ (bodyB rs L p s).1.length ≤ 20 * p.nodes ∧ (bodyB rs L p s).2.list.length + 1 ≤ s.list.length + 300 * p.nodes := by
  unfold bodyB
  have := nodes_pos p
  split
  · rename_i hk
    have := flatB_few hL p s hp hh (by omega)
    have h4 := this.1.l
    exact ⟨this.1.up (by omega), this.2, by omega⟩
  · have := oneB_few hL p s hp hh
    exact ⟨this.1, by simp; omega, this.2⟩
theorem lvl_ok (rs : List Ru) : ∀ n, LvOk rs n (lvl rs n)
  | 0 => ⟨fun p s h => by cases p; rw [ht_mk] at h; omega, fun p s h => by cases p; rw [ht_mk] at h; omega⟩
  | n + 1 => ⟨fun p s h hp => oneB_few (lvl_ok rs n) p s hp h, fun p s h hp => bodyB_few (lvl_ok rs n) p s hp h⟩

/-- All rules. -/
noncomputable def rulesB (rs : List Ru) (L : Lv) (n : Nat) (s : Mk) : Mk := (List.range n).foldl (fun s i => match rs[i]? with | some r => headB rs L i r.p s | none => s) s
theorem rulesB_succ (rs : List Ru) (L : Lv) (n : Nat) (s : Mk) (h : n < rs.length) : rulesB rs L (n + 1) s = headB rs L n rs[n].p (rulesB rs L n s) := by
  unfold rulesB
  rw [List.range_succ, List.foldl_append]
  simp only [List.foldl_cons, List.foldl_nil, List.getElem?_eq_getElem h]
/-- Productions by their heads. -/
def byHeads (n : Nat) (l : List Pd) : List Pd := (List.range n).flatMap fun (h : Nat) => l.filter fun p => decide (p.head = (h : Int))

end Go.Proofs.Ytkgiklmdpdakbaa

