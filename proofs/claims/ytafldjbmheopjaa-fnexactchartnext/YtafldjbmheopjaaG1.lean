/- A map of rows of items: a number and a place lead to items that wait. -/
import Derived.Test.YtafldjbmheopjaaExactCfgTrimW
import Derived.Test.YtafldjbmheopjaaE3
import Derived.WideKeyEntry
import Derived.DeepKeys4
import Derived.Maps.Own
namespace Go.Proofs.Ytafldjbmheopjaa
open Go.RowKit Go.WideMaps
open Go.ChangeMaps (setBlock heap_setBlock_same heap_setBlock_other putKey notKey)
open Go.WideElems (rd rg pl rd_val entry_then_store)
open Go.Maps (Keyed)
set_option linter.unusedVariables false

theorem laidB : laidOutB Try.prog = true := by kernel_rfl
theorem row128 : (111 : TypeId) < Try.prog.types.size := of_decide_eq_true (by kernel_rfl)
theorem wide128 : (match Try.prog.underlying 111 with | some (.array _ _) | some (.struct _) => true | _ => false) = true := by rw [Try.underlying111]
set_option maxRecDepth 100000 in
theorem law128 : KeyLaw Try.prog 111 := deep_law_laid laidB (m := 2) (by omega) row128 (by kernel_rfl) wide128
theorem zero53 (w : World) : (zeroValue 52).run Try.prog w = .ok (.slice none 0 0) w := by kernel_rfl
theorem ktype128 : Try.prog.keyType 111 = true := by kernel_rfl
theorem cells128 : Try.prog.cellsOf 111 = 2 := by kernel_rfl
theorem cells3' : Try.prog.cellsOf 3 = 1 := by kernel_rfl
theorem tsize : ∃ m, Try.prog.types.size = m + 1 := ⟨162, by kernel_rfl⟩
theorem keyB (h f : Int) (wh : (Lit.int .i64 h).wf = true) (wf : (Lit.int .i64 f).wf = true) : keyOf Try.prog 111 (.agg #[.int .i64 h, .int .i64 f]) = some (.string (keyBytes [.int .i64 h, .int .i64 f])) := by
  obtain ⟨m, hm⟩ := tsize
  unfold keyOf
  simp only [Try.underlying111]
  rw [if_pos (by simp [ktype128, Value.formed, Try.underlying111, cells128]), hm]
  unfold Program.keyLits
  simp only [Try.underlying111, Value.cells]
  simp [Program.keyLits, Try.underlying3, wh, wf, cells3', cells128]

/-- A slice that owns items. -/
def itRow (w : World) (base : Nat) (v : Value) (its : List Sy) : Prop := w.ownsRow base 54 3 v its.length (symCells its)

theorem itRow.kept {w w' : World} {base : Nat} {v : Value} {its : List Sy} {row : Option Nat} (h : itRow w base v its) (hg : w.grownBy w' row) (hne : v.ownBlock = none ∨ v.ownBlock ≠ row) : itRow w' base v its := World.ownsRow.kept h hg hne
theorem itRow.nil (w : World) (base : Nat) : itRow w base (.slice none 0 0) [] := World.ownsRow_nil _ _ _ _

open Classical in
/-- How a row of items reads: as nothing. -/
noncomputable def looseR (w : World) (base n : Nat) (v : Value) : Option (DataW Unit × List MemPlace) :=
  if ∃ its, its.length ≤ n ∧ itRow w base v its then some (.nil, []) else none

section
variable {w w' : World} {base n bm : Nat} {v : Value} {its : List Sy} {cs : List Nat}

theorem looseR_mk (h : itRow w base v its) (hl : its.length ≤ n) : looseR w base n v = some (.nil, []) := by
  unfold looseR
  rw [if_pos ⟨its, hl, h⟩]
theorem looseR_inv {z : DataW Unit × List MemPlace} (h : looseR w base n v = some z) : ∃ its, its.length ≤ n ∧ itRow w base v its ∧ z = (.nil, []) := by
  unfold looseR at h
  split at h
  · rename_i hx
    obtain ⟨its, h1, h2⟩ := hx
    exact ⟨its, h1, h2, (Option.some.inj h).symm⟩
  · cases h

/-- Block bm is a map of at most n entries, each a row of at most n items of its own, from block 'base' on and in none of the blocks cs; no two keys' rows lie in one block. -/
def GM (w : World) (base bm n : Nat) (cs : List Nat) : Prop :=
  ∃ es clock, w.heap[bm]? = some (.map es clock) ∧ WideElems.Fit Try.prog 111 (looseR w base n) es clock ∧ es.size ≤ n ∧ bm < base ∧
    (∀ x ∈ es.toList, ∀ b, x.val.ownBlock = some b → b ∉ cs) ∧
    ∀ x ∈ es.toList, ∀ y ∈ es.toList, x.key ≠ y.key → x.val.ownBlock = none ∨ x.val.ownBlock ≠ y.val.ownBlock

theorem GM.made {w : World} {bm base : Nat} (h : w.heap[bm]? = some (.map #[] 0)) (hb : bm < base) : GM w base bm 0 [] :=
  ⟨#[], 0, h, ⟨by simp, MapKept.stamped_empty 0, by simp⟩, Nat.le_refl _, hb, by simp, by simp⟩

theorem GM.lt (h : GM w base bm n cs) : bm < w.heap.size := by
  obtain ⟨es, clock, hb, _⟩ := h
  exact (Array.getElem?_eq_some_iff.1 hb).1

set_option maxRecDepth 100000 in
/-- The rows of a map stay where they are as long as their blocks do. -/
theorem GM.frame (h : GM w base bm n cs) (hB : ∀ k, k < w.heap.size → (k = bm ∨ (∃ cur, w.heap[k]? = some (.cells cur 54 (0, 0))) ∧ base ≤ k ∧ k ∉ cs) → w'.heap[k]? = w.heap[k]?) : GM w' base bm n cs := by
  have hlt := h.lt
  obtain ⟨es, clock, hb, F, hs, hbb, hc, hap⟩ := h
  obtain ⟨F1, _, _⟩ := F.stay (R' := looseR w' base n) (fun x hx z hz => by
    obtain ⟨its, hl, hi, rfl⟩ := looseR_inv hz
    refine looseR_mk (its := its) ?_ hl
    rcases hi with ⟨h1, h2 | ⟨g, cap, cur, hv, hg, hh, hr⟩⟩
    · exact ⟨h1, .inl h2⟩
    · have hg2 : g < w.heap.size := (Array.getElem?_eq_some_iff.1 hh).1
      refine ⟨h1, .inr ⟨g, cap, cur, hv, hg, (hB g hg2 (.inr ⟨⟨cur, hh⟩, hg, hc x hx g (by rw [hv]; rfl)⟩)).trans hh, hr⟩⟩)
  exact ⟨es, clock, (hB bm hlt (.inl rfl)).trans hb, F1, hs, hbb, hc, hap⟩

theorem GM.keep (h : GM w base bm n cs) (hb : Below w.heap.size w w') : GM w' base bm n cs := h.frame (fun k hk _ => hb.block k hk)
theorem GM.drew (h : GM w base bm n cs) : GM w.drew base bm n cs := h.keep (Below.refl _ _).drew
theorem GM.alloc (h : GM w base bm n cs) (o : Obj) : GM (w.alloc o) base bm n cs := h.keep (below_box _)

set_option maxRecDepth 100000 in
/-- A block that is new is none of the rows'. -/
theorem GM.more (h : GM w base bm n cs) {q : Nat} (hq : w.heap.size ≤ q) : GM w base bm n (q :: cs) := by
  obtain ⟨es, clock, hb, F, hs, hbb, hc, hap⟩ := h
  refine ⟨es, clock, hb, F, hs, hbb, fun x hx b hbx => ?_, hap⟩
  obtain ⟨y, hy⟩ := F.reads x hx
  obtain ⟨z, hz, _⟩ := rd_val hy
  obtain ⟨its, _, hi, _⟩ := looseR_inv hz
  have := (World.ownsRow.lt hi b hbx).2
  intro hm
  rcases List.mem_cons.1 hm with h1 | h1
  · omega
  · exact hc x hx b hbx h1

theorem GM.up (h : GM w base bm n cs) {m : Nat} (hm : n ≤ m) : GM w base bm m cs := by
  obtain ⟨es, clock, hb, F, hs, hbb, hc, hap⟩ := h
  obtain ⟨F1, _, _⟩ := F.stay (R' := looseR w base m) (fun x hx z hz => by
    obtain ⟨its, hl, hi, rfl⟩ := looseR_inv hz
    exact looseR_mk hi (by omega))
  exact ⟨es, clock, hb, F1, by omega, hbb, hc, hap⟩

set_option maxRecDepth 100000 in
/-- 'm[k]' in such a map: some slice. -/
theorem GM.look (h : GM w base bm n cs) {x y : Int} (wx : (Lit.int .i64 x).wf = true) (wy : (Lit.int .i64 y).wf = true) :
    ∃ A m c, m ≤ n ∧ (Instr.lookup 89 (.map (some bm)) (.agg #[.int .i64 x, .int .i64 y]) false).run Try.prog w = .ok (.slice A m c) w := by
  obtain ⟨es, clock, hb, F, hs, hbb, hc, hap⟩ := h
  rcases Maps.fit_look false (Keyed.of_law law128) Try.underlying89 (zero53 w) hb F (keyB x y wx wy) with ⟨hrun, _, _⟩ | ⟨e0, z, _, _, hrun, hR, _⟩
  · exact ⟨none, 0, 0, Nat.zero_le _, by simpa using hrun⟩
  · obtain ⟨its, hl, hi, _⟩ := looseR_inv hR
    obtain ⟨A, c, hv⟩ := own_form hi
    exact ⟨A, its.length, c, hl, by rw [hv] at hrun; simpa using hrun⟩

set_option maxRecDepth 100000 in
/-- 'm[k] = append(m[k], ..)' in such a map: the entry, and the way back. -/
theorem GM.entry (h : GM w base bm n cs) (hn : n < 1000000000) {x y : Int} (wx : (Lit.int .i64 x).wf = true) (wy : (Lit.int .i64 y).wf = true) (hcs : ∀ c ∈ cs, c < w.heap.size) :
    ∃ v0 st its w1, (Instr.mapEntry 89 (.map (some bm)) (.agg #[.int .i64 x, .int .i64 y])).run Try.prog w = .ok (.tuple #[v0, goInt st]) w1 ∧ w.grownBy w1 (some bm) ∧ w1.heap.size = w.heap.size ∧ its.length ≤ n ∧ itRow w1 base v0 its ∧
      v0.ownBlock ≠ some bm ∧ (∀ b, v0.ownBlock = some b → b ∉ cs) ∧
      ∀ w2 v' its', w1.grownBy w2 v0.ownBlock → itRow w2 base v' its' → its'.length ≤ n + 1 → (v'.ownBlock = v0.ownBlock ∨ ∃ g, v'.ownBlock = some g ∧ w1.heap.size ≤ g) →
        ∃ w3, (Instr.entryStore 89 (.map (some bm)) (goInt st) v').run Try.prog w2 = .ok () w3 ∧ GM w3 base bm (n + 1) cs ∧ w2.grownBy w3 (some bm) := by
  have hblt := h.lt
  obtain ⟨es, clock, hb, F, hs, hbb, hc, hap⟩ := h
  have hkey := keyB x y wx wy
  obtain ⟨v0, st, es1, clock1, hrun, hcase, hstore⟩ := entry_then_store law128 Try.underlying89 (fun u => zero53 u) hb F hkey
  have owned : ∀ e ∈ es.toList, ∃ its, its.length ≤ n ∧ itRow w base e.val its := fun e he => by
    obtain ⟨z, hz⟩ := F.reads e he
    obtain ⟨u, hu, _⟩ := rd_val hz
    obtain ⟨its, h1, h2, _⟩ := looseR_inv hu
    exact ⟨its, h1, h2⟩
  obtain ⟨its, hl, hi⟩ : ∃ its, its.length ≤ n ∧ itRow w base v0 its := by
    rcases hcase with ⟨e0, he, _, rfl⟩ | ⟨_, rfl⟩
    · exact owned e0 he
    · exact ⟨[], Nat.zero_le _, itRow.nil _ _⟩
  have hg1 : w.grownBy (setBlock w bm (.map es1 clock1)) (some bm) := ⟨rfl, rfl, rfl, by simp [setBlock], fun i _ hi => heap_setBlock_other hb _ (fun e => hi (by rw [e]))⟩
  have hz1 : (setBlock w bm (.map es1 clock1)).heap.size = w.heap.size := by simp [setBlock]
  have nebm : ∀ {u : Value} {W : World} {ys : List Sy}, itRow W base u ys → u.ownBlock = none ∨ u.ownBlock ≠ some bm := fun {u W ys} ho => by
    cases hu : u.ownBlock with
    | none => exact Or.inl rfl
    | some g =>
      refine Or.inr (fun e1 => ?_)
      have := (World.ownsRow.lt ho g hu).1
      cases e1
      omega
  have hv0 : v0.ownBlock ≠ some bm := fun e => by
    rcases nebm hi with h1 | h1
    · rw [h1] at e; cases e
    · exact h1 e
  have hvother : ∀ e ∈ es.toList, e.key ≠ .agg #[.int .i64 x, .int .i64 y] → e.val.ownBlock = none ∨ e.val.ownBlock ≠ v0.ownBlock := fun e he hne => by
    rcases hcase with ⟨e0, he0, hk0, rfl⟩ | ⟨_, rfl⟩
    · exact hap e he e0 he0 (by rw [hk0]; exact hne)
    · cases e.val.ownBlock <;> simp [Value.ownBlock]
  have hv0cs : ∀ b, v0.ownBlock = some b → b ∉ cs := fun b hbv => by
    rcases hcase with ⟨e0, he0, hk0, rfl⟩ | ⟨_, rfl⟩
    · exact hc e0 he0 b hbv
    · cases hbv
  refine ⟨v0, st, its, _, hrun, hg1, hz1, hl, hi.kept hg1 (nebm hi), hv0, hv0cs, ?_⟩
  intro w2 v' its' hg2 hi' hl' hloc
  have hb2 : w2.heap[bm]? = some (.map es1 clock1) := (hg2.block bm (by rw [hz1]; exact hblt) (fun e => hv0 e.symm)).trans (heap_setBlock_same hb _)
  obtain ⟨es', clock', hst, hup⟩ := hstore w2 v' hb2
  have hs1 : ∀ e ∈ es.toList, e.key ≠ .agg #[.int .i64 x, .int .i64 y] → ∀ z, looseR w base n e.val = some z → looseR w2 base (n + 1) e.val = some z := by
    intro e he hne z hz
    obtain ⟨ys, h1, h2, rfl⟩ := looseR_inv hz
    exact looseR_mk ((h2.kept hg1 (nebm h2)).kept hg2 (hvother e he hne)) (by omega)
  obtain ⟨es2, clock2, hup2, F', hput, _, _, hwho⟩ := Maps.fit_store (R' := looseR w2 base (n + 1)) (Keyed.of_law law128) Try.underlying89 hb F (by unfold maxLen; omega) hs1 hkey (looseR_mk hi' hl')
  have hsame : es' = es2 ∧ clock' = clock2 := by
    rw [hup] at hup2
    injection hup2 with _ e1
    have e2 := congrArg (fun W : World => W.heap[bm]?) e1
    simp only [heap_setBlock_same hb] at e2
    injection e2 with e2
    injection e2 with e3 e4
    exact ⟨e3, e4⟩
  obtain ⟨rfl, rfl⟩ := hsame
  have hg3 : w2.grownBy (setBlock w2 bm (.map es' clock')) (some bm) := ⟨rfl, rfl, rfl, by simp [setBlock], fun i _ hi => heap_setBlock_other hb2 _ (fun e1 => hi (by rw [e1]))⟩
  obtain ⟨F3, _, _⟩ := F'.stay (R' := looseR (setBlock w2 bm (.map es' clock')) base (n + 1)) (fun e he z hz => by
    obtain ⟨ys, h1, h2, rfl⟩ := looseR_inv hz
    exact looseR_mk (h2.kept hg3 (nebm h2)) h1)
  have old_new : ∀ e ∈ es.toList, e.key ≠ .agg #[.int .i64 x, .int .i64 y] → e.val.ownBlock = none ∨ e.val.ownBlock ≠ v'.ownBlock := by
    intro e he hne
    rcases hloc with h1 | ⟨g, h1, h2⟩
    · rw [h1]; exact hvother e he hne
    · cases hx' : e.val.ownBlock with
      | none => exact Or.inl rfl
      | some gx =>
        obtain ⟨ys, _, ho⟩ := owned e he
        have := (World.ownsRow.lt ho gx hx').2
        refine Or.inr (fun e1 => ?_)
        rw [h1] at e1
        cases e1
        omega
  refine ⟨_, hst, ⟨es', clock', heap_setBlock_same hb2 _, F3, ?_, hbb, ?_, ?_⟩, hg3⟩
  · have e1 : es'.size = ((es'.toList.map (rg Try.prog 111 (looseR w2 base (n + 1)))).foldr DataW.insert []).length := by rw [length_sorted]; simp
    rw [e1, hput]
    unfold putKey
    rw [length_insert]
    have e2 := List.length_filter_le (notKey (.string (keyBytes [.int .i64 x, .int .i64 y]))) ((es.toList.map (rg Try.prog 111 (looseR w base n))).foldr DataW.insert [])
    rw [length_sorted] at e2
    simp at e2
    omega
  · intro e he b hbe
    rcases hwho e he with ⟨he0, _⟩ | ⟨_, hval⟩
    · exact hc e he0 b hbe
    · rw [hval] at hbe
      rcases hloc with h1 | ⟨g, h1, h2⟩
      · exact hv0cs b (by rw [← h1]; exact hbe)
      · intro hm
        rw [h1] at hbe
        cases hbe
        have := hcs _ hm
        omega
  · intro p hp q hq hne
    rcases hwho p hp with ⟨hp0, hpk⟩ | ⟨hpk, hpv⟩ <;> rcases hwho q hq with ⟨hq0, hqk⟩ | ⟨hqk, hqv⟩
    · exact hap p hp0 q hq0 hne
    · rw [hqv]; exact old_new p hp0 hpk
    · rw [hpv]
      cases hv' : v'.ownBlock with
      | none => exact Or.inl rfl
      | some g =>
        refine Or.inr (fun e1 => ?_)
        rcases old_new q hq0 hqk with h | h
        · rw [h] at e1; cases e1
        · exact h (by rw [hv', e1])
    · exact absurd (hpk.trans hqk.symm) hne
end

end Go.Proofs.Ytafldjbmheopjaa
