/- Values, plain: what is asked of them, and their text. -/
import Derived.Test.YtkhcappjhefkjaaGreatDoorP8
import Derived.Test.YtkhcappjhefkjaaGreatDoorW0
namespace Go.Proofs.YtkhcappjhefkjaaGreatDoor
open Go.RowKit
set_option linter.unusedVariables false

/-- A value, plain. -/
inductive Js where
  | mk (kind : Int) (flag : Bool) (text : ByteArray) (names : List ByteArray) (kids : List Js) : Js
def Js.kind : Js → Int
  | .mk k _ _ _ _ => k
def Js.kids : Js → List Js
  | .mk _ _ _ _ ks => ks
def Js.names : Js → List ByteArray
  | .mk _ _ _ ns _ => ns

mutual
def Js.ht : Js → Nat
  | .mk _ _ _ _ kids => htJ kids + 1
def htJ : List Js → Nat
  | [] => 0
  | p :: r => max p.ht (htJ r)
end
theorem htJ_mem {p : Js} : ∀ {kids : List Js}, p ∈ kids → p.ht ≤ htJ kids
  | q :: r, h => by
    unfold htJ
    rcases List.mem_cons.1 h with rfl | h
    · exact Nat.le_max_left _ _
    · exact Nat.le_trans (htJ_mem h) (Nat.le_max_right _ _)
theorem htJ_mk {k : Int} {f : Bool} {t : ByteArray} {ns : List ByteArray} {kids : List Js} : (Js.mk k f t ns kids).ht = htJ kids + 1 := by rw [Js.ht]
theorem htJ_le {kids : List Js} {d : Nat} : htJ kids ≤ d ↔ ∀ p ∈ kids, p.ht ≤ d := by
  induction kids with
  | nil => simp [htJ]
  | cons p r ih => simp [htJ, Nat.max_le, ih]

mutual
/-- How many values there are. -/
def Js.nodes : Js → Nat
  | .mk _ _ _ _ kids => nodesJ kids + 1
def nodesJ : List Js → Nat
  | [] => 0
  | p :: r => p.nodes + nodesJ r
end
theorem nodesJ_mk {k : Int} {f : Bool} {t : ByteArray} {ns : List ByteArray} {kids : List Js} : (Js.mk k f t ns kids).nodes = nodesJ kids + 1 := by rw [Js.nodes]
theorem nodesJ_append (a b : List Js) : nodesJ (a ++ b) = nodesJ a + nodesJ b := by
  induction a with
  | nil => simp [nodesJ]
  | cons p r ih => simp [nodesJ, ih]; omega
theorem nodesJ_take {kids : List Js} {j : Nat} (h : j < kids.length) : nodesJ (kids.take (j + 1)) = nodesJ (kids.take j) + kids[j].nodes := by
  rw [List.take_succ_eq_append_getElem h, nodesJ_append]
  simp [nodesJ]
theorem nodesJ_le (kids : List Js) (j : Nat) : nodesJ (kids.take j) ≤ nodesJ kids := by
  have : nodesJ kids = nodesJ (kids.take j) + nodesJ (kids.drop j) := by rw [← nodesJ_append, List.take_append_drop]
  omega
theorem nodes_pos (p : Js) : 1 ≤ p.nodes := by cases p; rw [nodesJ_mk]; omega
theorem nodesJ_len (kids : List Js) : kids.length ≤ nodesJ kids := by
  induction kids with
  | nil => simp [nodesJ]
  | cons p r ih => have := nodes_pos p; simp only [nodesJ, List.length_cons]; omega
theorem nodesJ_mem {p : Js} : ∀ {kids : List Js}, p ∈ kids → p.nodes ≤ nodesJ kids
  | q :: r, h => by
    unfold nodesJ
    rcases List.mem_cons.1 h with rfl | h
    · omega
    · have := nodesJ_mem h; omega
theorem nodesJ_bound {M : Nat} : ∀ (kids : List Js), (∀ p ∈ kids, p.nodes ≤ M) → nodesJ kids ≤ kids.length * M
  | [], _ => by simp [nodesJ]
  | p :: r, h => by
    have h1 := nodesJ_bound r (fun q hq => h q (List.mem_cons_of_mem _ hq))
    have h2 := h p (List.mem_cons_self ..)
    simp only [nodesJ, List.length_cons, Nat.add_mul, Nat.one_mul]
    omega

/-! ### What is asked of one value -/
def digitB (b : UInt8) : Prop := 48 ≤ b.toNat ∧ b.toNat ≤ 57
/-- The figures of a number: what is behind a hyphen. -/
def figs (l : List UInt8) : List UInt8 := if l.head? = some 45 then l.tail else l
def NumP (t : ByteArray) : Prop := 1 ≤ (figs (bl t)).length ∧ (figs (bl t)).length ≤ 7 ∧ (∀ b ∈ figs (bl t), digitB b) ∧ ((figs (bl t)).head? ≠ some 48 ∨ bl t = [48])
def QuoP (t : ByteArray) : Prop := t.size ≤ 20 ∧ ∀ b ∈ bl t, plainB [34] b = true
def NmsP (ns : List ByteArray) : Prop := (∀ i (h : i < ns.length), NameP ns[i]) ∧ ∀ i (h : i < ns.length) k (hk : k < i), ns[k] ≠ ns[i]

/-- One value has just the fields of its kind, and they are as they should be. -/
def OneP (k : Int) (f : Bool) (t : ByteArray) (ns : List ByteArray) (kids : List Js) : Prop :=
  (k = 1 ∧ f = false ∧ t.size = 0 ∧ ns.length = 0 ∧ kids.length = 0) ∨
  (k = 2 ∧ t.size = 0 ∧ ns.length = 0 ∧ kids.length = 0) ∨
  (k = 3 ∧ f = false ∧ NumP t ∧ ns.length = 0 ∧ kids.length = 0) ∨
  (k = 4 ∧ f = false ∧ QuoP t ∧ ns.length = 0 ∧ kids.length = 0) ∨
  (k = 5 ∧ f = false ∧ t.size = 0 ∧ ns.length = 0) ∨
  (k = 6 ∧ f = false ∧ t.size = 0 ∧ ns.length = kids.length ∧ NmsP ns)

inductive JokP : Js → Prop
  | mk (k : Int) (f : Bool) (t : ByteArray) (ns : List ByteArray) (kids : List Js) : OneP k f t ns kids → (∀ p ∈ kids, JokP p) → JokP (.mk k f t ns kids)
theorem JokP.one {k : Int} {f : Bool} {t : ByteArray} {ns : List ByteArray} {kids : List Js} (h : JokP (.mk k f t ns kids)) : OneP k f t ns kids := by cases h; assumption
theorem JokP.kids {k : Int} {f : Bool} {t : ByteArray} {ns : List ByteArray} {kids : List Js} (h : JokP (.mk k f t ns kids)) : ∀ p ∈ kids, JokP p := by cases h; assumption

/-- No value has too many kids. -/
inductive NarJ : Js → Prop
  | mk (k : Int) (f : Bool) (t : ByteArray) (ns : List ByteArray) (kids : List Js) : kids.length ≤ 40 → (∀ p ∈ kids, NarJ p) → NarJ (.mk k f t ns kids)
theorem nar_of_nodes : ∀ (d : Nat) (p : Js), p.ht ≤ d → p.nodes ≤ 40 → NarJ p
  | 0, .mk k f t ns kids, h, _ => by rw [htJ_mk] at h; omega
  | d + 1, .mk k f t ns kids, h, hn => by
    rw [htJ_mk] at h
    rw [nodesJ_mk] at hn
    have h1 := nodesJ_len kids
    refine .mk k f t ns kids (by omega) (fun p hp => ?_)
    have h2 := nodesJ_mem hp
    exact nar_of_nodes d p (Nat.le_trans (htJ_mem hp) (by omega)) (by omega)
theorem nodes_boundJ : ∀ (d : Nat) (p : Js), p.ht ≤ d → NarJ p → p.nodes ≤ 41 ^ d
  | 0, .mk k f t ns kids, h, _ => by rw [htJ_mk] at h; omega
  | d + 1, .mk k f t ns kids, h, hn => by
    rw [htJ_mk] at h
    cases hn with
    | mk _ _ _ _ _ q1 q2 =>
    have h1 := nodesJ_bound (M := 41 ^ d) kids (fun p hp => nodes_boundJ d p (Nat.le_trans (htJ_mem hp) (by omega)) (q2 p hp))
    have h2 : kids.length * 41 ^ d ≤ 40 * 41 ^ d := Nat.mul_le_mul_right _ q1
    have h3 : 41 ^ 0 ≤ 41 ^ d := Nat.pow_le_pow_right (by omega) (Nat.zero_le d)
    rw [Nat.pow_zero] at h3
    rw [nodesJ_mk, Nat.pow_succ]
    omega

/-! ### The text -/
def quo (l : List UInt8) : List UInt8 := 34 :: (l ++ [34])
def keyT (n : ByteArray) : List UInt8 := 34 :: (bl n ++ [34, 58])
def nullT : List UInt8 := [110, 117, 108, 108]
def trueT : List UInt8 := [116, 114, 117, 101]
def falseT : List UInt8 := [102, 97, 108, 115, 101]
/-- The texts of kids, the j-th behind its name in a form, and behind a comma where one is before it. -/
def kidsT (form : Bool) (ns : List ByteArray) : Nat → List (List UInt8) → List UInt8
  | _, [] => []
  | j, x :: r => (if 0 < j then [44] else []) ++ (if form = true then keyT (ns.getD j ByteArray.empty) else []) ++ x ++ kidsT form ns (j + 1) r
theorem kidsT_append (form : Bool) (ns : List ByteArray) : ∀ (a b : List (List UInt8)) (j : Nat), kidsT form ns j (a ++ b) = kidsT form ns j a ++ kidsT form ns (j + a.length) b
  | [], b, j => by simp [kidsT]
  | x :: r, b, j => by
    have := kidsT_append form ns r b (j + 1)
    simp only [List.cons_append, kidsT, this, List.append_assoc, List.length_cons]
    have e : j + 1 + r.length = j + (r.length + 1) := by omega
    rw [e]

mutual
def jtx : Js → List UInt8
  | .mk k f t ns kids =>
    if k = 1 then nullT else if k = 2 then (if f = true then trueT else falseT) else if k = 3 then bl t else if k = 4 then quo (bl t)
    else if k = 6 then 123 :: (kidsT true ns 0 (jtxL kids) ++ [125])
    else 91 :: (kidsT false ns 0 (jtxL kids) ++ [93])
def jtxL : List Js → List (List UInt8)
  | [] => []
  | p :: r => jtx p :: jtxL r
end
theorem jtxL_map (kids : List Js) : jtxL kids = kids.map jtx := by
  induction kids with
  | nil => simp [jtxL]
  | cons p r ih => simp [jtxL, ih]
theorem jtx_mk {k : Int} {f : Bool} {t : ByteArray} {ns : List ByteArray} {kids : List Js} : jtx (.mk k f t ns kids) = if k = 1 then nullT else if k = 2 then (if f = true then trueT else falseT) else if k = 3 then bl t else if k = 4 then quo (bl t)
    else if k = 6 then 123 :: (kidsT true ns 0 (kids.map jtx) ++ [125])
    else 91 :: (kidsT false ns 0 (kids.map jtx) ++ [93]) := by rw [jtx, jtxL_map]
/-- The text of the first kids. -/
def kidsTo (form : Bool) (ns : List ByteArray) (kids : List Js) (j : Nat) : List UInt8 := kidsT form ns 0 ((kids.take j).map jtx)
theorem kidsTo_zero (form : Bool) (ns : List ByteArray) (kids : List Js) : kidsTo form ns kids 0 = [] := by simp [kidsTo, kidsT]
theorem kidsTo_succ (form : Bool) (ns : List ByteArray) (kids : List Js) {j : Nat} (h : j < kids.length) :
    kidsTo form ns kids (j + 1) = kidsTo form ns kids j ++ ((if 0 < j then [44] else []) ++ (if form = true then keyT (ns.getD j ByteArray.empty) else []) ++ jtx kids[j]) := by
  unfold kidsTo
  rw [List.take_succ_eq_append_getElem h, List.map_append, kidsT_append]
  simp [kidsT, Nat.min_eq_left (Nat.le_of_lt h)]
theorem kidsTo_all (form : Bool) (ns : List ByteArray) (kids : List Js) : kidsTo form ns kids kids.length = kidsT form ns 0 (kids.map jtx) := by simp [kidsTo]

/-- A value is ok. -/
def JsonP (p : Js) : Prop := p.ht ≤ 5 ∧ JokP p ∧ p.nodes ≤ 40 ∧ (jtx p).length ≤ 300

theorem num_len {t : ByteArray} (h : NumP t) : 1 ≤ (bl t).length ∧ (bl t).length ≤ 8 := by
  obtain ⟨h1, h2, _⟩ := h
  unfold figs at h1 h2
  split at h1
  · cases hb : bl t with
    | nil => rw [hb] at h1; simp at h1
    | cons x r => rw [hb] at h1 h2; simp_all
  · rename_i hne
    rw [if_neg hne] at h2
    omega
theorem keyT_len {n : ByteArray} (h : n.size ≤ 8) : (keyT n).length ≤ 11 := by
  rw [bl_size] at h
  simp [keyT]; omega
theorem kidsT_len (form : Bool) (ns : List ByteArray) (hn : ∀ i (h : i < ns.length), ns[i].size ≤ 8) : ∀ (kids : List Js) (j : Nat), (∀ p ∈ kids, (jtx p).length + 12 ≤ 40 * p.nodes) → (kidsT form ns j (kids.map jtx)).length ≤ 40 * nodesJ kids
  | [], j, _ => by simp [kidsT, nodesJ]
  | p :: r, j, h => by
    have h1 := kidsT_len form ns hn r (j + 1) (fun y hy => h y (List.mem_cons_of_mem _ hy))
    have h2 := h p (List.mem_cons_self ..)
    have h3 : (keyT (ns.getD j ByteArray.empty)).length ≤ 11 := keyT_len (by
      rw [List.getD_eq_getElem?_getD]
      rcases Nat.lt_or_ge j ns.length with hj | hj
      · rw [List.getElem?_eq_getElem hj]; exact hn j hj
      · rw [List.getElem?_eq_none hj]; show (0 : Nat) ≤ 8; omega)
    have h4 : (if 0 < j then [(44 : UInt8)] else []).length ≤ 1 := by split <;> simp
    have h5 : (if form = true then keyT (ns.getD j ByteArray.empty) else []).length ≤ 11 := by split; exact h3; simp
    simp only [List.map_cons, kidsT, List.length_append, nodesJ]
    omega
theorem one_names {k : Int} {f : Bool} {t : ByteArray} {ns : List ByteArray} {kids : List Js} (h : OneP k f t ns kids) : ∀ i (h : i < ns.length), ns[i].size ≤ 8 := by
  intro i hi
  rcases h with h | h | h | h | h | h
  · omega
  · omega
  · omega
  · omega
  · omega
  · exact (h.2.2.2.2.1 i hi).2.1
theorem jtx_len : ∀ (d : Nat) (p : Js), p.ht ≤ d → JokP p → (jtx p).length + 12 ≤ 40 * p.nodes
  | 0, .mk k f t ns kids, h, _ => by rw [htJ_mk] at h; omega
  | d + 1, .mk k f t ns kids, h, ho => by
    rw [htJ_mk] at h
    have ih : ∀ p ∈ kids, (jtx p).length + 12 ≤ 40 * p.nodes := fun p hp => jtx_len d p (Nat.le_trans (htJ_mem hp) (by omega)) (ho.kids p hp)
    have hone := ho.one
    have hn := one_names hone
    have k1 := kidsT_len true ns hn kids 0 ih
    have k2 := kidsT_len false ns hn kids 0 ih
    rw [nodesJ_mk, jtx_mk]
    rcases hone with ⟨rfl, _⟩ | ⟨rfl, _⟩ | ⟨rfl, _, h3, _⟩ | ⟨rfl, _, h3, _⟩ | ⟨rfl, _⟩ | ⟨rfl, _⟩
    · simp [nullT]; omega
    · cases f <;> simp [trueT, falseT] <;> omega
    · have := num_len h3
      simp; omega
    · have := h3.1
      rw [bl_size] at this
      simp [quo]; omega
    · simp only [show ¬ (5 : Int) = 1 by omega, show ¬ (5 : Int) = 2 by omega, show ¬ (5 : Int) = 3 by omega, show ¬ (5 : Int) = 4 by omega, show ¬ (5 : Int) = 6 by omega, if_false, List.length_cons, List.length_append, List.length_nil]
      omega
    · simp only [show ¬ (6 : Int) = 1 by omega, show ¬ (6 : Int) = 2 by omega, show ¬ (6 : Int) = 3 by omega, show ¬ (6 : Int) = 4 by omega, if_false, if_true, List.length_cons, List.length_append, List.length_nil]
      omega
theorem jtx_pos {k : Int} {f : Bool} {t : ByteArray} {ns : List ByteArray} {kids : List Js} (h : OneP k f t ns kids) : 1 ≤ (jtx (.mk k f t ns kids)).length := by
  rw [jtx_mk]
  rcases h with ⟨rfl, _⟩ | ⟨rfl, _⟩ | ⟨rfl, _, h3, _⟩ | ⟨rfl, _, h3, _⟩ | ⟨rfl, _⟩ | ⟨rfl, _⟩
  · simp [nullT]
  · cases f <;> simp [trueT, falseT]
  · have := num_len h3; simp; omega
  · simp [quo]
  · simp
  · simp
theorem jtx_part {j : Nat} {form : Bool} {ns : List ByteArray} {kids : List Js} : (kidsTo form ns kids j).length ≤ (kidsT form ns 0 (kids.map jtx)).length := by
  have e := kidsT_append form ns ((kids.take j).map jtx) ((kids.drop j).map jtx) 0
  rw [← List.map_append, List.take_append_drop] at e
  rw [e]
  simp [kidsTo]
end Go.Proofs.YtkhcappjhefkjaaGreatDoor
