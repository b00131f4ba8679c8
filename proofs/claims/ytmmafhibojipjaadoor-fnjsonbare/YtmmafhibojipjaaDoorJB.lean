/- Plain: the text of a value has no blanks but between quotes. -/
import Derived.Test.YtmmafhibojipjaaDoorJV
namespace Go.Proofs.YtmmafhibojipjaaDoor
open Go.RowKit
set_option linter.unusedVariables false

/-- In or out of quotes behind these bytes, if no blank was met out of quotes. -/
def qrun : Bool → List UInt8 → Option Bool
  | q, [] => some q
  | q, b :: r => if (if b = 34 then !q else q) = false ∧ b.toNat ≤ 32 then none else qrun (if b = 34 then !q else q) r
theorem qrun_append : ∀ (q : Bool) (a b : List UInt8), qrun q (a ++ b) = (qrun q a).bind fun r => qrun r b
  | q, [], b => rfl
  | q, x :: a, b => by
    have ih := fun q => qrun_append q a b
    simp only [List.cons_append, qrun]
    by_cases h : (if x = 34 then !q else q) = false ∧ x.toNat ≤ 32
    · rw [if_pos h, if_pos h]; rfl
    · rw [if_neg h, if_neg h]; exact ih _
theorem qrun_out : ∀ (l : List UInt8), (∀ b ∈ l, b ≠ 34 ∧ 32 < b.toNat) → qrun false l = some false
  | [], _ => rfl
  | b :: r, h => by
    obtain ⟨h1, h2⟩ := h b (List.mem_cons_self ..)
    simp only [qrun, if_neg h1]
    rw [if_neg (by omega)]
    exact qrun_out r fun x hx => h x (List.mem_cons_of_mem _ hx)
theorem qrun_in : ∀ (l : List UInt8), (∀ b ∈ l, b ≠ 34) → qrun true l = some true
  | [], _ => rfl
  | b :: r, h => by
    have h1 := h b (List.mem_cons_self ..)
    simp only [qrun, if_neg h1]
    rw [if_neg (by simp)]
    exact qrun_in r fun x hx => h x (List.mem_cons_of_mem _ hx)
theorem qrun_quo {l : List UInt8} (h : ∀ b ∈ l, b ≠ 34) : qrun false (34 :: (l ++ [34])) = some false := by
  have h1 : qrun false (34 :: (l ++ [34])) = qrun true (l ++ [34]) := by simp [qrun]
  rw [h1, qrun_append, qrun_in l h]
  simp [qrun]
/-- Two texts that begin and end out of quotes. -/
theorem qrun_two {a b : List UInt8} (ha : qrun false a = some false) (hb : qrun false b = some false) : qrun false (a ++ b) = some false := by
  rw [qrun_append, ha]; exact hb
theorem plain_ne {b : UInt8} (h : plainB [34] b = true) : b ≠ 34 := by
  intro e; subst e; simp [plainB] at h
theorem name_ne {n : ByteArray} (h : NameP n) : ∀ b ∈ bl n, b ≠ 34 := by
  rw [mem_bl]
  intro u hu e
  have := h.2.2 u hu
  rw [e] at this
  have h2 : (34 : UInt8).toNat = 34 := rfl
  omega
theorem qrun_key {n : ByteArray} (h : ∀ b ∈ bl n, b ≠ 34) : qrun false (keyT n) = some false := by
  have e : keyT n = (34 :: (bl n ++ [34])) ++ [58] := by simp [keyT]
  rw [e]
  exact qrun_two (qrun_quo h) (by simp [qrun])
theorem qrun_kids (form : Bool) (ns : List ByteArray) (hn : form = true → ∀ i, ∀ b ∈ bl (ns.getD i ByteArray.empty), b ≠ 34) : ∀ (ts : List (List UInt8)) (j : Nat), (∀ x ∈ ts, qrun false x = some false) → qrun false (kidsT form ns j ts) = some false
  | [], _, _ => rfl
  | x :: r, j, h => by
    simp only [kidsT]
    refine qrun_two (qrun_two (qrun_two ?_ ?_) (h x (List.mem_cons_self ..))) (qrun_kids form ns hn r (j + 1) fun y hy => h y (List.mem_cons_of_mem _ hy))
    · split <;> simp [qrun]
    · split
      · rename_i hf; exact qrun_key (hn hf j)
      · rfl
theorem qrun_num {t : ByteArray} (h : NumP t) : qrun false (bl t) = some false := by
  refine qrun_out _ fun b hb => ?_
  have h2 : (34 : UInt8).toNat = 34 := rfl
  have h3 : (45 : UInt8).toNat = 45 := rfl
  have key : b = 45 ∨ digitB b := by
    obtain ⟨_, _, h4, _⟩ := h
    by_cases h45 : (bl t).head? = some 45
    · have hf : figs (bl t) = (bl t).tail := if_pos h45
      rw [hf] at h4
      cases hl : bl t with
      | nil => rw [hl] at hb; cases hb
      | cons x r =>
        rw [hl] at hb h45 h4
        simp at h45
        rcases List.mem_cons.1 hb with rfl | hb
        · exact .inl h45
        · exact .inr (h4 b hb)
    · have hf : figs (bl t) = bl t := if_neg h45
      rw [hf] at h4
      exact .inr (h4 b hb)
  rcases key with rfl | ⟨h5, h6⟩
  · exact ⟨by decide, by decide⟩
  · exact ⟨fun e => by subst e; omega, by omega⟩
theorem qrun_js : ∀ (d : Nat) (p : Js), p.ht ≤ d → JokP p → qrun false (jtx p) = some false
  | 0, .mk k f t ns kids, h, _ => by rw [htJ_mk] at h; omega
  | d + 1, .mk k f t ns kids, h, ho => by
    rw [htJ_mk] at h
    have ih : ∀ x ∈ kids.map jtx, qrun false x = some false := fun x hx => by
      obtain ⟨p, hp, rfl⟩ := List.mem_map.1 hx
      exact qrun_js d p (Nat.le_trans (htJ_mem hp) (by omega)) (ho.kids p hp)
    rw [jtx_mk]
    rcases ho.one with ⟨rfl, _⟩ | ⟨rfl, _⟩ | ⟨rfl, _, h3, _⟩ | ⟨rfl, _, h3, _⟩ | ⟨rfl, _⟩ | ⟨rfl, _, _, _, h3⟩
    · show qrun false nullT = _; decide
    · cases f
      · show qrun false falseT = _; decide
      · show qrun false trueT = _; decide
    · exact qrun_num h3
    · exact qrun_quo fun b hb => plain_ne (h3.2 b hb)
    · have h1 := qrun_kids false ns (fun e => by cases e) (kids.map jtx) 0 ih
      exact qrun_two (a := [91]) (by decide) (qrun_two h1 (by decide))
    · have h1 := qrun_kids true ns (fun _ i => by
        rw [List.getD_eq_getElem?_getD]
        rcases Nat.lt_or_ge i ns.length with hi | hi
        · rw [List.getElem?_eq_getElem hi]; exact name_ne (h3.1 i hi)
        · rw [List.getElem?_eq_none hi]; intro b hb; exact absurd hb (by show ¬ b ∈ ([] : List UInt8); simp)) (kids.map jtx) 0 ih
      exact qrun_two (a := [123]) (by decide) (qrun_two h1 (by decide))

/-- The loop's state: behind i bytes. -/
def QAt (l : List UInt8) (i : Nat) (q : Bool) : Prop := qrun false (l.take i) = some q
theorem QAt.next {l : List UInt8} {i : Nat} {q r : Bool} (hl : qrun false l = some r) (h : QAt l i q) (hi : i < l.length) :
    ¬ ((if l[i] = 34 then !q else q) = false ∧ l[i].toNat ≤ 32) ∧ QAt l (i + 1) (if l[i] = 34 then !q else q) := by
  have e : l = l.take i ++ l[i] :: l.drop (i + 1) := by rw [List.getElem_cons_drop, List.take_append_drop]
  rw [e, qrun_append, h] at hl
  have h2 : ¬ ((if l[i] = 34 then !q else q) = false ∧ l[i].toNat ≤ 32) := fun hc => by
    simp only [Option.bind_some, qrun, if_pos hc] at hl
    cases hl
  refine ⟨h2, ?_⟩
  unfold QAt
  rw [List.take_succ_eq_append_getElem hi, qrun_append, h]
  simp only [Option.bind_some, qrun, if_neg h2]
theorem QAt.done {l : List UInt8} {i : Nat} {q : Bool} (hl : qrun false l = some false) (h : QAt l i q) (hi : l.length ≤ i) : q = false := by
  unfold QAt at h
  rw [List.take_of_length_le hi, hl] at h
  injection h with h; exact h.symm
end Go.Proofs.YtmmafhibojipjaaDoor
