/- A row of nodes in memory while it grows: every list lies apart. -/
import Derived.Test.YtcanhkngikeeiaaV1
import Derived.Test.YtcanhkngikeeiaaN10
import Derived.Maps.AppendAt
namespace Go.Proofs.Ytcanhkngikeeiaa
open Go.RowKit
set_option linter.unusedVariables false

/-- The lists of nodes by one number: kids and ids by turns. -/
def lst (ns : List Node) (q : Nat) : List Int := if q % 2 = 0 then (ns.getD (q / 2) default).kids else (ns.getD (q / 2) default).ids
theorem lst_kid {ns : List Node} {i : Nat} (h : i < ns.length) : lst ns (2 * i) = ns[i].kids := by
  unfold lst
  rw [if_pos (by omega), show 2 * i / 2 = i by omega]
  simp [h]
theorem lst_ids {ns : List Node} {i : Nat} (h : i < ns.length) : lst ns (2 * i + 1) = ns[i].ids := by
  unfold lst
  rw [if_neg (by omega), show (2 * i + 1) / 2 = i by omega]
  simp [h]
theorem lst_append {ns : List Node} {n : Node} {q : Nat} (h : q < 2 * ns.length) : lst (ns ++ [n]) q = lst ns q := by
  have h1 : q / 2 < ns.length := by omega
  unfold lst
  simp [List.getD_eq_getElem?_getD, List.getElem?_append_left h1]
/-- A node with one more in one of its lists. -/
def Node.more (n : Node) (c : Nat) (x : Int) : Node := if c = 0 then { n with kids := n.kids ++ [x] } else { n with ids := n.ids ++ [x] }
def moreAt (ns : List Node) (q : Nat) (x : Int) : List Node := ns.set (q / 2) ((ns.getD (q / 2) default).more (q % 2) x)
@[simp] theorem moreAt_length (ns : List Node) (q : Nat) (x : Int) : (moreAt ns q x).length = ns.length := by simp [moreAt]
theorem moreAt_byte {ns : List Node} {q : Nat} {x : Int} {i : Nat} (h : i < (moreAt ns q x).length) : (moreAt ns q x)[i].byte = (ns[i]'(by simpa using h)).byte := by
  have h' : i < ns.length := by simpa using h
  simp only [moreAt, List.getElem_set]
  split
  · rename_i e; subst e; unfold Node.more; split <;> simp [h']
  · rfl
theorem lst_more {ns : List Node} {q : Nat} {x : Int} (h : q < 2 * ns.length) (p : Nat) (hp : p < 2 * ns.length) : lst (moreAt ns q x) p = if p = q then lst ns q ++ [x] else lst ns p := by
  have h1 : q / 2 < ns.length := by omega
  have h2 : p / 2 < ns.length := by omega
  unfold lst moreAt
  simp only [List.getD_eq_getElem?_getD, List.getElem?_set]
  by_cases e : q / 2 = p / 2
  · rw [if_pos e, if_pos h1]
    simp only [Option.getD_some]
    by_cases c : p = q
    · subst c
      rw [if_pos rfl]
      unfold Node.more
      by_cases z : p % 2 = 0
      · simp [z]
      · simp [z]
    · rw [if_neg c]
      have hm : p % 2 ≠ q % 2 := by omega
      unfold Node.more
      rw [← e]
      by_cases z : p % 2 = 0
      · rw [if_pos z, if_pos z, if_neg (by omega)]
      · rw [if_neg z, if_neg z, if_pos (by omega)]
  · have hpq : p ≠ q := fun e2 => e (by rw [e2])
    rw [if_neg e, if_neg hpq]

structure Fo (base : Nat) (v : Value) (ns : List Node) (val : Nat → Value) (xs : List Value) (w : World) : Prop where
  row : w.ownsRow base 46 3 v ns.length xs
  cel : ∀ i (h : i < ns.length), xs[i * 3]? = some (.int .i64 ns[i].byte) ∧ xs[i * 3 + 1]? = some (val (2 * i)) ∧ xs[i * 3 + 2]? = some (val (2 * i + 1))
  own : ∀ q, q < 2 * ns.length → w.ownsRow base 3 1 (val q) (lst ns q).length (ints (lst ns q))
  apt : ∀ p q b, p < 2 * ns.length → q < 2 * ns.length → p ≠ q → (val p).ownBlock = some b → (val q).ownBlock ≠ some b

/-- The blocks of a growing row. -/
def Foot (v : Value) (n : Nat) (val : Nat → Value) (k : Nat) : Prop := v.ownBlock = some k ∨ ∃ q, q < 2 * n ∧ (val q).ownBlock = some k

/-- What a step leaves: blocks outside stay; what is new in the footprint is a new block. -/
structure Fr (F F' : Nat → Prop) (w w' : World) : Prop where
  os : w'.os = w.os
  tape : w'.tape = w.tape
  output : w'.output = w.output
  size : w.heap.size ≤ w'.heap.size
  block : ∀ k, k < w.heap.size → ¬ F k → w'.heap[k]? = w.heap[k]?
  foot : ∀ k, k < w.heap.size → F' k → F k

section
variable {F F' F'' : Nat → Prop} {w w' w'' : World} {base : Nat} {v v' : Value} {ns : List Node} {val : Nat → Value} {xs : List Value}
theorem Fr.refl (F : Nat → Prop) (w : World) : Fr F F w w := ⟨rfl, rfl, rfl, Nat.le_refl _, fun _ _ _ => rfl, fun _ _ h => h⟩
theorem Fr.trans (h : Fr F F' w w') (h' : Fr F' F'' w' w'') : Fr F F'' w w'' :=
  ⟨h'.os.trans h.os, h'.tape.trans h.tape, h'.output.trans h.output, Nat.le_trans h.size h'.size, fun k hk hF => (h'.block k (Nat.lt_of_lt_of_le hk h.size) (fun q => hF (h.foot k hk q))).trans (h.block k hk hF), fun k hk q => h.foot k hk (h'.foot k (Nat.lt_of_lt_of_le hk h.size) q)⟩
theorem Fr.of_below (F : Nat → Prop) (hb : Below w.heap.size w w') : Fr F F w w' := ⟨hb.os, hb.tape, hb.output, hb.size, fun k hk _ => hb.block k hk, fun _ _ h => h⟩
theorem Fr.below (h : Fr F F' w w') (hF : ∀ k, F k → base ≤ k) (hb : base ≤ w.heap.size) : Below base w w' := ⟨h.os, h.tape, h.output, h.size, fun k hk => h.block k (by omega) (fun q => by have := hF k q; omega)⟩
theorem Fr.own {g : Nat} {t : TypeId} {ys : List Value} (h : Fr F F' w w') (ho : Own w g t ys) (hg : ¬ F g) : Own w' g t ys := (h.block g ho.lt hg).trans ho
theorem Fr.cell {p : Addr} {x : Value} (h : Fr F F' w w') (hc : w.cell? p = some x) (hg : ¬ F p.block) : w'.cell? p = some x := by
  rw [World.cell?_of_block (h.block p.block (cell_lt hc) hg)]; exact hc
theorem Fr.frozen {p : Addr} {x : Value} (h : Fr F F' w w') (hc : w.cell? p = some x) (hg : ¬ F p.block) : w'.frozen? p = w.frozen? p := World.frozen?_of_block (h.block p.block (cell_lt hc) hg)
theorem Fo.keep (h : Fo base v ns val xs w) (hb : Below w.heap.size w w') : Fo base v ns val xs w' := ⟨own_keep h.row hb, h.cel, fun q hq => own_keep (h.own q hq) hb, h.apt⟩
theorem Fo.alloc (h : Fo base v ns val xs w) (o : Obj) : Fo base v ns val xs (w.alloc o) := h.keep (below_box o)
theorem Fo.drew (h : Fo base v ns val xs w) : Fo base v ns val xs w.drew := h.keep (Below.refl _ _).drew
theorem Fo.foot (h : Fo base v ns val xs w) {k : Nat} (hk : Foot v ns.length val k) : base ≤ k ∧ k < w.heap.size := by
  rcases hk with hk | ⟨q, hq, hk⟩
  · exact h.row.lt k hk
  · exact (h.own q hq).lt k hk
theorem kind {e : TypeId} {size n : Nat} {k : Nat} (h : w.ownsRow base e size v n xs) (hk : v.ownBlock = some k) : ∃ cur, w.heap[k]? = some (.cells cur e (0, 0)) := by
  rcases h.2 with ⟨rfl, _⟩ | ⟨g, cap, cur, rfl, _, h1, _⟩
  · cases hk
  · injection hk with hk; exact ⟨cur, by rw [← hk]; exact h1⟩
theorem Fo.rowApt (h : Fo base v ns val xs w) {q : Nat} (hq : q < 2 * ns.length) {k : Nat} (hk : v.ownBlock = some k) : (val q).ownBlock ≠ some k := by
  intro e
  obtain ⟨c1, h1⟩ := kind h.row hk
  obtain ⟨c2, h2⟩ := kind (h.own q hq) e
  rw [h1] at h2
  injection h2 with h2
  injection h2 with _ h2
  cases h2
/-- The value with one of its numbers changed. -/
def upd (val : Nat → Value) (q : Nat) (u : Value) (p : Nat) : Value := if p = q then u else val p

/-- A node is put behind the others. -/
theorem Fo.push {b : Int} {js : List Int} {jv : Value} (h : Fo base v ns val xs w) (hg : w.grownBy w' v.ownBlock) (hr : w'.ownsRow base 46 3 v' (ns.length + 1) (xs ++ [.int .i64 b, .slice none 0 0, jv]))
    (hj : w.ownsRow base 3 1 jv js.length (ints js)) (hja : ∀ q b, q < 2 * ns.length → (val q).ownBlock = some b → jv.ownBlock ≠ some b) (hjr : jv.ownBlock = none ∨ jv.ownBlock ≠ v.ownBlock) :
    Fo base v' (ns ++ [⟨b, [], js⟩]) (upd (upd val (2 * ns.length) (.slice none 0 0)) (2 * ns.length + 1) jv) (xs ++ [.int .i64 b, .slice none 0 0, jv]) w' := by
  have hxl := h.row.1
  have hrow : ∀ q, q < 2 * ns.length → w'.ownsRow base 3 1 (val q) (lst ns q).length (ints (lst ns q)) := fun q hq => (h.own q hq).kept hg (by
    by_cases e : (val q).ownBlock = none
    · exact .inl e
    · right
      intro e2
      obtain ⟨k, hk⟩ := Option.ne_none_iff_exists'.1 e
      exact h.rowApt hq (k := k) (by rw [← e2, hk]) hk)
  refine ⟨by simpa using hr, fun i hi => ?_, fun q hq => ?_, fun p q k hp hq hpq hk => ?_⟩
  · simp only [List.length_append, List.length_cons, List.length_nil] at hi
    by_cases c : i < ns.length
    · obtain ⟨h1, h2, h3⟩ := h.cel i c
      rw [List.getElem?_append_left (by omega), List.getElem?_append_left (by omega), List.getElem?_append_left (by omega), h1, h2, h3]
      simp [upd, List.getElem_append_left c, show 2 * i ≠ 2 * ns.length + 1 by omega, show 2 * i ≠ 2 * ns.length by omega, show 2 * i + 1 ≠ 2 * ns.length by omega]
    · obtain rfl : i = ns.length := by omega
      rw [List.getElem?_append_right (by omega), List.getElem?_append_right (by omega), List.getElem?_append_right (by omega), hxl]
      simp [upd, show ns.length * 3 + 1 - ns.length * 3 = 1 by omega, show ns.length * 3 + 2 - ns.length * 3 = 2 by omega]
  · simp only [List.length_append, List.length_cons, List.length_nil] at hq
    by_cases c : q < 2 * ns.length
    · rw [lst_append c]
      have e1 : upd (upd val (2 * ns.length) (.slice none 0 0)) (2 * ns.length + 1) jv q = val q := by simp [upd, show q ≠ 2 * ns.length + 1 by omega, show q ≠ 2 * ns.length by omega]
      rw [e1]
      exact hrow q c
    · by_cases c2 : q = 2 * ns.length
      · subst c2
        have e1 : upd (upd val (2 * ns.length) (.slice none 0 0)) (2 * ns.length + 1) jv (2 * ns.length) = .slice none 0 0 := by simp [upd]
        have e2 : lst (ns ++ [⟨b, [], js⟩]) (2 * ns.length) = [] := by rw [lst_kid (by simp)]; simp
        rw [e1, e2]
        exact World.ownsRow_nil _ _ _ _
      · obtain rfl : q = 2 * ns.length + 1 := by omega
        have e1 : upd (upd val (2 * ns.length) (.slice none 0 0)) (2 * ns.length + 1) jv (2 * ns.length + 1) = jv := by simp [upd]
        have e2 : lst (ns ++ [⟨b, [], js⟩]) (2 * ns.length + 1) = js := by rw [lst_ids (by simp)]; simp
        rw [e1, e2]
        exact hj.kept hg hjr
  · simp only [List.length_append, List.length_cons, List.length_nil] at hp hq
    unfold upd at hk ⊢
    by_cases a1 : p = 2 * ns.length + 1
    · rw [if_pos a1] at hk
      rw [if_neg (by omega)]
      by_cases a2 : q = 2 * ns.length
      · rw [if_pos a2]; simp [Value.ownBlock]
      · rw [if_neg a2]
        intro e
        exact hja q k (by omega) e hk
    · rw [if_neg a1] at hk
      by_cases a2 : p = 2 * ns.length
      · rw [if_pos a2] at hk; simp [Value.ownBlock] at hk
      · rw [if_neg a2] at hk
        by_cases a3 : q = 2 * ns.length + 1
        · rw [if_pos a3]; exact hja p k (by omega) hk
        · rw [if_neg a3]
          by_cases a4 : q = 2 * ns.length
          · rw [if_pos a4]; simp [Value.ownBlock]
          · rw [if_neg a4]; exact h.apt p q k (by omega) (by omega) hpq hk

theorem foot_push {b : Int} {js : List Int} {jv : Value} {k : Nat} (hv : v'.ownBlock = v.ownBlock ∨ v'.ownBlock = some w.heap.size) (hk : Foot v' (ns ++ [(⟨b, [], js⟩ : Node)]).length (upd (upd val (2 * ns.length) (.slice none 0 0)) (2 * ns.length + 1) jv) k) : Foot v ns.length val k ∨ jv.ownBlock = some k ∨ k = w.heap.size := by
  rcases hk with hk | ⟨q, hq, hk⟩
  · rcases hv with e | e
    · exact .inl (.inl (by rw [← e]; exact hk))
    · rw [e] at hk; injection hk with hk; exact .inr (.inr hk.symm)
  · simp only [List.length_append, List.length_cons, List.length_nil] at hq
    unfold upd at hk
    by_cases a1 : q = 2 * ns.length + 1
    · rw [if_pos a1] at hk; exact .inr (.inl hk)
    · rw [if_neg a1] at hk
      by_cases a2 : q = 2 * ns.length
      · rw [if_pos a2] at hk; cases hk
      · rw [if_neg a2] at hk; exact .inl (.inr ⟨q, by omega, hk⟩)
/-- .. and what that leaves. -/
theorem Fr.push {b : Int} {js : List Int} {jv : Value} {w0 : World} (h0 : Fr F (Foot v ns.length val) w0 w) (hg : w.grownBy w' v.ownBlock) (hv : v'.ownBlock = v.ownBlock ∨ v'.ownBlock = some w.heap.size) (hj : ∀ k, jv.ownBlock = some k → w0.heap.size ≤ k) :
    Fr F (Foot v' (ns ++ [(⟨b, [], js⟩ : Node)]).length (upd (upd val (2 * ns.length) (.slice none 0 0)) (2 * ns.length + 1) jv)) w0 w' := by
  have hs := h0.size
  refine ⟨hg.os.trans h0.os, hg.tape.trans h0.tape, hg.output.trans h0.output, Nat.le_trans hs hg.size, fun k hk hF => ?_, fun k hk hF => ?_⟩
  · exact (hg.block k (by omega) (fun e => hF (h0.foot k hk (.inl e.symm)))).trans (h0.block k hk hF)
  · rcases foot_push (w := w) hv hF with q | q | q
    · exact h0.foot k hk q
    · have := hj k q; omega
    · omega

/-- One more in one of the lists. -/
theorem Fo.put {G cap q : Nat} {x : Int} {w5 : World} (h : Fo base (.slice (some ⟨G, 0, none⟩) ns.length cap) ns val xs w) (hq : q < 2 * ns.length) (hg : w.grownBy w5 (val q).ownBlock) (ho : w5.ownsRow base 3 1 v' ((lst ns q).length + 1) (ints (lst ns q) ++ [.int .i64 x]))
    (hb : v'.ownBlock = (val q).ownBlock ∨ v'.ownBlock = some w.heap.size) :
    Fo base (.slice (some ⟨G, 0, none⟩) ns.length cap) (moreAt ns q x) (upd val q v') (xs.set (q / 2 * 3 + 1 + q % 2) v') (w5.setCell ⟨G, q / 2 * 3 + 1 + q % 2, none⟩ v') := by
  have hxl := h.row.1
  have hGlt := h.row.lt G rfl
  have hrow : w5.ownsRow base 46 3 (.slice (some ⟨G, 0, none⟩) ns.length cap) ns.length xs := h.row.kept hg (.inr (fun e => h.rowApt hq (k := G) rfl e.symm))
  have far : ∀ {u : Value} {n : Nat} {ys : List Value}, w5.ownsRow base 3 1 u n ys → (w5.setCell ⟨G, q / 2 * 3 + 1 + q % 2, none⟩ v').ownsRow base 3 1 u n ys := by
    intro u n ys hu
    refine ⟨hu.1, ?_⟩
    rcases hu.2 with ⟨e1, e2⟩ | ⟨g, c, cur, e1, e2, e3, e4⟩
    · exact .inl ⟨e1, e2⟩
    · refine .inr ⟨g, c, cur, e1, e2, (Below.heap_setCell w5 _ _ g ?_).trans e3, e4⟩
      intro e
      simp only at e
      subst e
      obtain ⟨c1, q1⟩ := kind hrow (k := g) rfl
      rw [q1] at e3
      injection e3 with e3
      injection e3 with _ e3
      cases e3
  refine ⟨by simpa using (hrow.stored (q / 2 * 3 + 1 + q % 2) v').1, fun i hi => ?_, fun p hp => ?_, fun p r k hp hr hpr hk => ?_⟩
  · have hi' : i < ns.length := by simpa using hi
    obtain ⟨h1, h2, h3⟩ := h.cel i hi'
    rw [moreAt_byte]
    refine ⟨?_, ?_, ?_⟩
    · rw [List.getElem?_set_ne (by omega)]; exact h1
    · by_cases c : 2 * i = q
      · subst c
        rw [show 2 * i / 2 * 3 + 1 + 2 * i % 2 = i * 3 + 1 by omega, List.getElem?_set_self (by omega)]; simp [upd]
      · rw [List.getElem?_set_ne (by omega), h2]; simp [upd, c]
    · by_cases c : 2 * i + 1 = q
      · subst c
        rw [show (2 * i + 1) / 2 * 3 + 1 + (2 * i + 1) % 2 = i * 3 + 2 by omega, List.getElem?_set_self (by omega)]; simp [upd]
      · rw [List.getElem?_set_ne (by omega), h3]; simp [upd, c]
  · have hp' : p < 2 * ns.length := by simpa using hp
    rw [lst_more hq p hp']
    unfold upd
    by_cases c : p = q
    · rw [if_pos c, if_pos c]
      have := far ho
      simpa [ints] using this
    · rw [if_neg c, if_neg c]
      refine far ((h.own p hp').kept hg ?_)
      by_cases e : (val p).ownBlock = none
      · exact .inl e
      · obtain ⟨k, hk⟩ := Option.ne_none_iff_exists'.1 e
        exact .inr (fun e2 => h.apt p q k hp' hq c hk (by rw [← e2]; exact hk))
  · have hp' : p < 2 * ns.length := by simpa using hp
    have hr' : r < 2 * ns.length := by simpa using hr
    unfold upd at hk ⊢
    by_cases c : p = q
    · rw [if_pos c] at hk
      rw [if_neg (by omega)]
      intro e
      rcases hb with q1 | q1
      · rw [q1] at hk; exact h.apt r q k hr' hq (by omega) e hk
      · rw [q1] at hk; injection hk with hk
        have := ((h.own r hr').lt k e).2
        omega
    · rw [if_neg c] at hk
      by_cases c2 : r = q
      · rw [if_pos c2]
        intro e
        rcases hb with q1 | q1
        · rw [q1] at e; exact h.apt p q k hp' hq c hk e
        · rw [q1] at e; injection e with e
          have := ((h.own p hp').lt k hk).2
          omega
      · rw [if_neg c2]; exact h.apt p r k hp' hr' hpr hk
theorem Fr.put {G cap q : Nat} {x : Int} {w5 w0 : World} {c : Nat} (h0 : Fr F (Foot (.slice (some ⟨G, 0, none⟩) ns.length cap) ns.length val) w0 w) (hq : q < 2 * ns.length) (hg : w.grownBy w5 (val q).ownBlock)
    (hb : v'.ownBlock = (val q).ownBlock ∨ v'.ownBlock = some w.heap.size) : Fr F (Foot (.slice (some ⟨G, 0, none⟩) ns.length cap) (moreAt ns q x).length (upd val q v')) w0 (w5.setCell ⟨G, c, none⟩ v') := by
  have hs := h0.size
  refine ⟨hg.os.trans h0.os, hg.tape.trans h0.tape, hg.output.trans h0.output, by simpa using Nat.le_trans hs hg.size, fun k hk hF => ?_, fun k hk hF => ?_⟩
  · have n1 : ¬ Foot (.slice (some ⟨G, 0, none⟩) ns.length cap) ns.length val k := fun q => hF (h0.foot k hk q)
    rw [Below.heap_setCell w5 _ _ k (fun e => n1 (.inl (by simp only at e; rw [e]; rfl)))]
    exact (hg.block k (by omega) (fun e => n1 (.inr ⟨q, hq, e.symm⟩))).trans (h0.block k hk hF)
  · refine h0.foot k hk ?_
    rcases hF with hF | ⟨p, hp, hF⟩
    · exact .inl hF
    · have hp' : p < 2 * ns.length := by simpa using hp
      unfold upd at hF
      by_cases c : p = q
      · rw [if_pos c] at hF
        rcases hb with e | e
        · exact .inr ⟨q, hq, by rw [← e]; exact hF⟩
        · rw [e] at hF; injection hF with hF; omega
      · rw [if_neg c] at hF; exact .inr ⟨p, hp', hF⟩
theorem Fo.nodes {A : Option Addr} {cap : Nat} (h : Fo base (.slice A ns.length cap) ns val xs w) : Nodes w A ns := by
  rcases h.row.2 with ⟨e1, e2⟩ | ⟨g, c, cur, e1, e2, e3, e4⟩
  · exact .inl (List.length_eq_zero_iff.1 e2)
  · injection e1 with e1
    subst e1
    refine .inr ⟨g, 0, rfl, fun i hi => ?_⟩
    obtain ⟨h1, h2, h3⟩ := h.cel i hi
    have o1 := h.own (2 * i) (by omega)
    have o2 := h.own (2 * i + 1) (by omega)
    rw [lst_kid hi] at o1
    rw [lst_ids hi] at o2
    obtain ⟨K, kc, ek⟩ := own_form o1
    obtain ⟨J, jc, ej⟩ := own_form o2
    rw [ek] at o1 h2
    rw [ej] at o2 h3
    refine ⟨K, kc, J, jc, ?_, ?_, ?_, own_row o1, own_row o2⟩
    · rw [Nat.zero_add, h.row.cellAt _ (by omega)]; exact h1
    · rw [Nat.zero_add, h.row.cellAt _ (by omega)]; exact h2
    · rw [Nat.zero_add, h.row.cellAt _ (by omega)]; exact h3
end

end Go.Proofs.Ytcanhkngikeeiaa
