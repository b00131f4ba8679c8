/- Values, plain: what is asked of them, and their text. -/
import Derived.Test.YtkhcappjhefkjaaGreatDoorQ1
namespace Go.Proofs.YtkhcappjhefkjaaGreatDoor
open Go.RowKit
set_option linter.unusedVariables false

/-- A value, plain. -/
inductive Js where
  | mk (kind : Int) (flag : Bool) (text : ByteArray) (names : List ByteArray) (kids : List Js) : Js
def Js.kind : Js → Int
  | .mk k _ _ _ _ => k
def Js.kids : Js → List Js
  | .mk _ _ _ _ ks => ks
def Js.names : Js → List ByteArray
  | .mk _ _ _ ns _ => ns

mutual
def Js.ht : Js → Nat
  | .mk _ _ _ _ kids => htJ kids + 1
def htJ : List Js → Nat
  | [] => 0
  | p :: r => max p.ht (htJ r)
end
theorem htJ_mem {p : Js} : ∀ {kids : List Js}, p ∈ kids → p.ht ≤ htJ kids
  | q :: r, h => by
    unfold htJ
    rcases List.mem_cons.1 h with rfl | h
    · exact Nat.le_max_left _ _
    · exact Nat.le_trans (htJ_mem h) (Nat.le_max_right _ _)
theorem htJ_mk {k : Int} {f : Bool} {t : ByteArray} {ns : List ByteArray} {kids : List Js} : (Js.mk k f t ns kids).ht = htJ kids + 1 := by rw [Js.ht]
theorem htJ_le {kids : List Js} {d : Nat} : htJ kids ≤ d ↔ ∀ p ∈ kids, p.ht ≤ d := by
  induction kids with
  | nil => simp [htJ]
  | cons p r ih => simp [htJ, Nat.max_le, ih]

mutual
/-- How many values there are. -/
def Js.nodes : Js → Nat
  | .mk _ _ _ _ kids => nodesJ kids + 1
def nodesJ : List Js → Nat
  | [] => 0
  | p :: r => p.nodes + nodesJ r
end
theorem nodesJ_mk {k : Int} {f : Bool} {t : ByteArray} {ns : List ByteArray} {kids : List Js} : (Js.mk k f t ns kids).nodes = nodesJ kids + 1 := by rw [Js.nodes]
theorem nodesJ_append (a b : List Js) : nodesJ (a ++ b) = nodesJ a + nodesJ b := by
  induction a with
  | nil => simp [nodesJ]
  | cons p r ih => simp [nodesJ, ih]; omega
theorem nodesJ_take {kids : List Js} {j : Nat} (h : j < kids.length) : nodesJ (kids.take (j + 1)) = nodesJ (kids.take j) + kids[j].nodes := by
  rw [List.take_succ_eq_append_getElem h, nodesJ_append]
  simp [nodesJ]
theorem nodesJ_le (kids : List Js) (j : Nat) : nodesJ (kids.take j) ≤ nodesJ kids := by
  have : nodesJ kids = nodesJ (kids.take j) + nodesJ (kids.drop j) := by rw [← nodesJ_append, List.take_append_drop]
  omega
theorem nodes_pos (p : Js) : 1 ≤ p.nodes := by cases p; rw [nodesJ_mk]; omega
theorem nodesJ_len (kids : List Js) : kids.length ≤ nodesJ kids := by
  induction kids with
  | nil => simp [nodesJ]
  | cons p r ih => have := nodes_pos p; simp only [nodesJ, List.length_cons]; omega
theorem nodesJ_mem {p : Js} : ∀ {kids : List Js}, p ∈ kids → p.nodes ≤ nodesJ kids
  | q :: r, h => by
    unfold nodesJ
    rcases List.mem_cons.1 h with rfl | h
    · omega
    · have := nodesJ_mem h; omega
theorem nodesJ_bound {M : Nat} : ∀ (kids : List Js), (∀ p ∈ kids, p.nodes ≤ M) → nodesJ kids ≤ kids.length * M
  | [], _ => by simp [nodesJ]
  | p :: r, h => by
    have h1 := nodesJ_bound r (fun q hq => h q (List.mem_cons_of_mem _ hq))
    have h2 := h p (List.mem_cons_self ..)
    simp only [nodesJ, List.length_cons, Nat.add_mul, Nat.one_mul]
    omega

/-! ### What is asked of one value -/
def digitB (b : UInt8) : Prop := 48 ≤ b.toNat ∧ b.toNat ≤ 57
/-- The figures of a number: what is behind a hyphen. -/
def figs (l : List UInt8) : List UInt8 := if l.head? = some 45 then l.tail else l
def NumP (t : ByteArray) : Prop := 1 ≤ (figs (bl t)).length ∧ (figs (bl t)).length ≤ 7 ∧ (∀ b ∈ figs (bl t), digitB b) ∧ ((figs (bl t)).head? ≠ some 48 ∨ bl t = [48])
def QuoP (t : ByteArray) : Prop := t.size ≤ 20 ∧ ∀ b ∈ bl t, plainB [34] b = true
def NmsP (ns : List ByteArray) : Prop := (∀ i (h : i < ns.length), NameP ns[i]) ∧ ∀ i (h : i < ns.length) k (hk : k < i), ns[k] ≠ ns[i]

/-- One value has just the fields of its kind, and they are as they should be. -/
def OneP (k : Int) (f : Bool) (t : ByteArray) (ns : List ByteArray) (kids : List Js) : Prop :=
  (k = 1 ∧ f = false ∧ t.size = 0 ∧ ns.length = 0 ∧ kids.length = 0) ∨
  (k = 2 ∧ t.size = 0 ∧ ns.length = 0 ∧ kids.length = 0) ∨
  (k = 3 ∧ f = false ∧ NumP t ∧ ns.length = 0 ∧ kids.length = 0) ∨
  (k = 4 ∧ f = false ∧ QuoP t ∧ ns.length = 0 ∧ kids.length = 0) ∨
  (k = 5 ∧ f = false ∧ t.size = 0 ∧ ns.length = 0) ∨
  (k = 6 ∧ f = false ∧ t.size = 0 ∧ ns.length = kids.length ∧ NmsP ns)

inductive JokP : Js → Prop
  | mk (k : Int) (f : Bool) (t : ByteArray) (ns : List ByteArray) (kids : List Js) : OneP k f t ns kids → (∀ p ∈ kids, JokP p) → JokP (.mk k f t ns kids)
theorem JokP.one {k : Int} {f : Bool} {t : ByteArray} {ns : List ByteArray} {kids : List Js} (h : JokP (.mk k f t ns kids)) : OneP k f t ns kids := by cases h; assumption
theorem JokP.kids {k : Int} {f : Bool} {t : ByteArray} {ns : List ByteArray} {kids : List Js} (h : JokP (.mk k f t ns kids)) : ∀ p ∈ kids, JokP p := by cases h; assumption

/-- No value has too many kids. -/
inductive NarJ : Js → Prop
  | mk (k : Int) (f : Bool) (t : ByteArray) (ns : List ByteArray) (kids : List Js) : kids.length ≤ 40 → (∀ p ∈ kids, NarJ p) → NarJ (.mk k f t ns kids)
theorem nar_of_nodes : ∀ (d : Nat) (p : Js), p.ht ≤ d → p.nodes ≤ 40 → NarJ p
  | 0, .mk k f t ns kids, h, _ => by rw [htJ_mk] at h; omega
  | d + 1, .mk k f t ns kids, h, hn => by
    rw [htJ_mk] at h
    rw [nodesJ_mk] at hn
    have h1 := nodesJ_len kids
    refine .mk k f t ns kids (by omega) (fun p hp => ?_)
    have h2 := nodesJ_mem hp
    exact nar_of_nodes d p (Nat.le_trans (htJ_mem hp) (by omega)) (by omega)
theorem nodes_boundJ : ∀ (d : Nat) (p : Js), p.ht ≤ d → NarJ p → p.nodes ≤ 41 ^ d
  | 0, .mk k f t ns kids, h, _ => by rw [htJ_mk] at h; omega
  | d + 1, .mk k f t ns kids, h, hn => by
    rw [htJ_mk] at h
    cases hn with
    | mk _ _ _ _ _ q1 q2 =>
    have h1 := nodesJ_bound (M := 41 ^ d) kids (fun p hp => nodes_boundJ d p (Nat.le_trans (htJ_mem hp) (by omega)) (q2 p hp))
    have h2 : kids.length * 41 ^ d ≤ 40 * 41 ^ d := Nat.mul_le_mul_right _ q1
    have h3 : 41 ^ 0 ≤ 41 ^ d := Nat.pow_le_pow_right (by omega) (Nat.zero_le d)
    rw [Nat.pow_zero] at h3
    rw [nodesJ_mk, Nat.pow_succ]
    omega

/-! ### The text -/
def quo (l : List UInt8) : List UInt8 := 34 :: (l ++ [34])
def keyT (n : ByteArray) : List UInt8 := 34 :: (bl n ++ [34, 58])
def nullT : List UInt8 := [110, 117, 108, 108]
def trueT : List UInt8 := [116, 114, 117, 101]
def falseT : List UInt8 := [102, 97, 108, 115, 101]
/-- The texts of kids, the j-th behind its name in a form, and behind a comma where one is before it. -/
def kidsT (form : Bool) (ns : List ByteArray) : Nat → List (List UInt8) → List UInt8
  | _, [] => []
  | j, x :: r => (if 0 < j then [44] else []) ++ (if form = true then keyT (ns.getD j ByteArray.empty) else []) ++ x ++ kidsT form ns (j + 1) r
theorem kidsT_append (form : Bool) (ns : List ByteArray) : ∀ (a b : List (List UInt8)) (j : Nat), kidsT form ns j (a ++ b) = kidsT form ns j a ++ kidsT form ns (j + a.length) b
  | [], b, j => by simp [kidsT]
  | x :: r, b, j => by
    have := kidsT_append form ns r b (j + 1)
    simp only [List.cons_append, kidsT, this, List.append_assoc, List.length_cons]
    have e : j + 1 + r.length = j + (r.length + 1) := by omega
    rw [e]

mutual
def jtx : Js → List UInt8
  | .mk k f t ns kids =>
    if k = 1 then nullT else if k = 2 then (if f = true then trueT else falseT) else if k = 3 then bl t else if k = 4 then quo (bl t)
    else if k = 6 then 123 :: (kidsT true ns 0 (jtxL kids) ++ [125])
    else 91 :: (kidsT false ns 0 (jtxL kids) ++ [93])
def jtxL : List Js → List (List UInt8)
  | [] => []
  | p :: r => jtx p :: jtxL r
end
theorem jtxL_map (kids : List Js) : jtxL kids = kids.map jtx := by
  induction kids with
  | nil => simp [jtxL]
  | cons p r ih => simp [jtxL, ih]
theorem jtx_mk {k : Int} {f : Bool} {t : ByteArray} {ns : List ByteArray} {kids : List Js} : jtx (.mk k f t ns kids) = if k = 1 then nullT else if k = 2 then (if f = true then trueT else falseT) else if k = 3 then bl t else if k = 4 then quo (bl t)
    else if k = 6 then 123 :: (kidsT true ns 0 (kids.map jtx) ++ [125])
    else 91 :: (kidsT false ns 0 (kids.map jtx) ++ [93]) := by rw [jtx, jtxL_map]
/-- The text of the first kids. -/
def kidsTo (form : Bool) (ns : List ByteArray) (kids : List Js) (j : Nat) : List UInt8 := kidsT form ns 0 ((kids.take j).map jtx)
theorem kidsTo_zero (form : Bool) (ns : List ByteArray) (kids : List Js) : kidsTo form ns kids 0 = [] := by simp [kidsTo, kidsT]
theorem kidsTo_succ (form : Bool) (ns : List ByteArray) (kids : List Js) {j : Nat} (h : j < kids.length) :
    kidsTo form ns kids (j + 1) = kidsTo form ns kids j ++ ((if 0 < j then [44] else []) ++ (if form = true then keyT (ns.getD j ByteArray.empty) else []) ++ jtx kids[j]) := by
  unfold kidsTo
  rw [List.take_succ_eq_append_getElem h, List.map_append, kidsT_append]
  simp [kidsT, Nat.min_eq_left (Nat.le_of_lt h)]
theorem kidsTo_all (form : Bool) (ns : List ByteArray) (kids : List Js) : kidsTo form ns kids kids.length = kidsT form ns 0 (kids.map jtx) := by simp [kidsTo]

/-- A value is ok. -/
def JsonP (p : Js) : Prop := p.ht ≤ 5 ∧ JokP p ∧ p.nodes ≤ 40 ∧ (jtx p).length ≤ 300

theorem num_len {t : ByteArray} (h : NumP t) : 1 ≤ (bl t).length ∧ (bl t).length ≤ 8 := by
  obtain ⟨h1, h2, _⟩ := h
  unfold figs at h1 h2
  split at h1
  · cases hb : bl t with
    | nil => rw [hb] at h1; simp at h1
    | cons x r => rw [hb] at h1 h2; simp_all
  · rename_i hne
    rw [if_neg hne] at h2
    omega
theorem keyT_len {n : ByteArray} (h : n.size ≤ 8) : (keyT n).length ≤ 11 := by
  rw [bl_size] at h
  simp [keyT]; omega
theorem kidsT_len (form : Bool) (ns : List ByteArray) (hn : ∀ i (h : i < ns.length), ns[i].size ≤ 8) : ∀ (kids : List Js) (j : Nat), (∀ p ∈ kids, (jtx p).length + 12 ≤ 40 * p.nodes) → (kidsT form ns j (kids.map jtx)).length ≤ 40 * nodesJ kids
  | [], j, _ => by simp [kidsT, nodesJ]
  | p :: r, j, h => by
    have h1 := kidsT_len form ns hn r (j + 1) (fun y hy => h y (List.mem_cons_of_mem _ hy))
    have h2 := h p (List.mem_cons_self ..)
    have h3 : (keyT (ns.getD j ByteArray.empty)).length ≤ 11 := keyT_len (by
      rw [List.getD_eq_getElem?_getD]
      rcases Nat.lt_or_ge j ns.length with hj | hj
      · rw [List.getElem?_eq_getElem hj]; exact hn j hj
      · rw [List.getElem?_eq_none hj]; show (0 : Nat) ≤ 8; omega)
    have h4 : (if 0 < j then [(44 : UInt8)] else []).length ≤ 1 := by split <;> simp
    have h5 : (if form = true then keyT (ns.getD j ByteArray.empty) else []).length ≤ 11 := by split; exact h3; simp
    simp only [List.map_cons, kidsT, List.length_append, nodesJ]
    omega
theorem one_names {k : Int} {f : Bool} {t : ByteArray} {ns : List ByteArray} {kids : List Js} (h : OneP k f t ns kids) : ∀ i (h : i < ns.length), ns[i].size ≤ 8 := by
  intro i hi
  rcases h with h | h | h | h | h | h
  · omega
  · omega
  · omega
  · omega
  · omega
  · exact (h.2.2.2.2.1 i hi).2.1
theorem jtx_len : ∀ (d : Nat) (p : Js), p.ht ≤ d → JokP p → (jtx p).length + 12 ≤ 40 * p.nodes
  | 0, .mk k f t ns kids, h, _ => by rw [htJ_mk] at h; omega
  | d + 1, .mk k f t ns kids, h, ho => by
    rw [htJ_mk] at h
    have ih : ∀ p ∈ kids, (jtx p).length + 12 ≤ 40 * p.nodes := fun p hp => jtx_len d p (Nat.le_trans (htJ_mem hp) (by omega)) (ho.kids p hp)
    have hone := ho.one
    have hn := one_names hone
    have k1 := kidsT_len true ns hn kids 0 ih
    have k2 := kidsT_len false ns hn kids 0 ih
    rw [nodesJ_mk, jtx_mk]
    rcases hone with ⟨rfl, _⟩ | ⟨rfl, _⟩ | ⟨rfl, _, h3, _⟩ | ⟨rfl, _, h3, _⟩ | ⟨rfl, _⟩ | ⟨rfl, _⟩
    · simp [nullT]; omega
    · cases f <;> simp [trueT, falseT] <;> omega
    · have := num_len h3
      simp; omega
    · have := h3.1
      rw [bl_size] at this
      simp [quo]; omega
    · simp only [show ¬ (5 : Int) = 1 by omega, show ¬ (5 : Int) = 2 by omega, show ¬ (5 : Int) = 3 by omega, show ¬ (5 : Int) = 4 by omega, show ¬ (5 : Int) = 6 by omega, if_false, List.length_cons, List.length_append, List.length_nil]
      omega
    · simp only [show ¬ (6 : Int) = 1 by omega, show ¬ (6 : Int) = 2 by omega, show ¬ (6 : Int) = 3 by omega, show ¬ (6 : Int) = 4 by omega, if_false, if_true, List.length_cons, List.length_append, List.length_nil]
      omega
theorem jtx_pos {k : Int} {f : Bool} {t : ByteArray} {ns : List ByteArray} {kids : List Js} (h : OneP k f t ns kids) : 1 ≤ (jtx (.mk k f t ns kids)).length := by
  rw [jtx_mk]
  rcases h with ⟨rfl, _⟩ | ⟨rfl, _⟩ | ⟨rfl, _, h3, _⟩ | ⟨rfl, _, h3, _⟩ | ⟨rfl, _⟩ | ⟨rfl, _⟩
  · simp [nullT]
  · cases f <;> simp [trueT, falseT]
  · have := num_len h3; simp; omega
  · simp [quo]
  · simp
  · simp
theorem jtx_part {j : Nat} {form : Bool} {ns : List ByteArray} {kids : List Js} : (kidsTo form ns kids j).length ≤ (kidsT form ns 0 (kids.map jtx)).length := by
  have e := kidsT_append form ns ((kids.take j).map jtx) ((kids.drop j).map jtx) 0
  rw [← List.map_append, List.take_append_drop] at e
  rw [e]
  simp [kidsTo]
end Go.Proofs.YtkhcappjhefkjaaGreatDoor

/- Values in memory, and how large they are. -/
namespace Go.Proofs.YtkhcappjhefkjaaGreatDoor
open Go.RowKit
set_option linter.unusedVariables false

/-- Whatever there is in a value is at most so long. -/
inductive LimJ (M : Nat) : Js → Prop
  | mk (k : Int) (f : Bool) (t : ByteArray) (ns : List ByteArray) (kids : List Js) : t.size ≤ M → ns.length ≤ M → (∀ n ∈ ns, n.size ≤ M) → kids.length ≤ M → (∀ p ∈ kids, LimJ M p) → LimJ M (.mk k f t ns kids)

/-- One value in five cells from a place on, and all that it has in memory, in blocks from B0 on. -/
inductive JsAt (w : World) (B0 : Nat) : Nat → Nat → Js → Prop
  | mk (b off : Nat) (k : Int) (f : Bool) (t : ByteArray) (ns : List ByteArray) (kids : List Js) (A K : Option Addr) (ca kc : Nat) (kb ko : Nat)
    (c0 : w.cell? ⟨b, off, none⟩ = some (.int .i64 k)) (c1 : w.cell? ⟨b, off + 1, none⟩ = some (.bool f)) (c2 : w.cell? ⟨b, off + 2, none⟩ = some (.string t))
    (c3 : w.cell? ⟨b, off + 3, none⟩ = some (.slice A ns.length ca)) (c4 : w.cell? ⟨b, off + 4, none⟩ = some (.slice K kids.length kc)) (le : ns.length ≤ ca)
    (hA : Row w A (strs ns)) (hK : kids ≠ [] → K = some ⟨kb, ko, none⟩) (hk : ∀ i (h : i < kids.length), JsAt w B0 kb (ko + i * 5) kids[i])
    (l0 : B0 ≤ b) (l1 : ∀ x, A = some x → B0 ≤ x.block) : JsAt w B0 b off (.mk k f t ns kids)

/-- Values, one behind the other. -/
def Jss (w : World) (B0 : Nat) (K : Option Addr) (ps : List Js) : Prop := ∃ b off, (ps ≠ [] → K = some ⟨b, off, none⟩) ∧ ∀ i (h : i < ps.length), JsAt w B0 b (off + i * 5) ps[i]
theorem Jss.at_ {w : World} {B0 : Nat} {K : Option Addr} {ps : List Js} (h : Jss w B0 K ps) {i : Nat} (hi : i < ps.length) : ∃ b off, K = some ⟨b, off, none⟩ ∧ JsAt w B0 b (off + i * 5) ps[i] := by
  obtain ⟨b, off, e, h⟩ := h
  exact ⟨b, off, e (fun h0 => by subst h0; simp at hi), h i hi⟩
theorem Jss.nil {w : World} {B0 : Nat} {K : Option Addr} : Jss w B0 K [] := ⟨0, 0, fun h => absurd rfl h, fun i h => absurd h (by simp)⟩

/-- What a value that is handed on has in memory. -/
structure JsV (w : World) (B0 : Nat) (ns : List ByteArray) (kids : List Js) (A K : Option Addr) : Prop where
  a : Row w A (strs ns)
  k : Jss w B0 K kids
  l1 : ∀ x, A = some x → B0 ≤ x.block

theorem JsAt.mv {w w' : World} {B0 : Nat} (hu : Upon B0 w w') {b off : Nat} {p : Js} (h : JsAt w B0 b off p) : JsAt w' B0 b off p := by
  induction h with
  | mk b off k f t ns kids A K ca kc kb ko c0 c1 c2 c3 c4 le hA hK hk l0 l1 ih =>
    exact .mk b off k f t ns kids A K ca kc kb ko (hu.cell c0 l0) (hu.cell c1 l0) (hu.cell c2 l0) (hu.cell c3 l0) (hu.cell c4 l0) le (hu.row hA l1) hK ih l0 l1
theorem JsAt.low {w : World} {B0 B1 : Nat} (hB : B1 ≤ B0) {b off : Nat} {p : Js} (h : JsAt w B0 b off p) : JsAt w B1 b off p := by
  induction h with
  | mk b off k f t ns kids A K ca kc kb ko c0 c1 c2 c3 c4 le hA hK hk l0 l1 ih =>
    exact .mk b off k f t ns kids A K ca kc kb ko c0 c1 c2 c3 c4 le hA hK ih (by omega) (fun x e => by have := l1 x e; omega)
theorem JsAt.keep {w w' : World} {B0 : Nat} {b off : Nat} {p : Js} (h : JsAt w B0 b off p) (hb : Below w.heap.size w w') : JsAt w' B0 b off p := h.mv (.of_below hb)
theorem Jss.mv {w w' : World} {B0 : Nat} {K : Option Addr} {ps : List Js} (h : Jss w B0 K ps) (hu : Upon B0 w w') : Jss w' B0 K ps := by
  obtain ⟨b, off, e, h⟩ := h
  exact ⟨b, off, e, fun i hi => (h i hi).mv hu⟩
theorem Jss.keep {w w' : World} {B0 : Nat} {K : Option Addr} {ps : List Js} (h : Jss w B0 K ps) (hb : Below w.heap.size w w') : Jss w' B0 K ps := h.mv (.of_below hb)
theorem Jss.low {w : World} {B0 B1 : Nat} {K : Option Addr} {ps : List Js} (h : Jss w B0 K ps) (hB : B1 ≤ B0) : Jss w B1 K ps := by
  obtain ⟨b, off, e, h⟩ := h
  exact ⟨b, off, e, fun i hi => (h i hi).low hB⟩
theorem JsV.mv {w w' : World} {B0 : Nat} {ns : List ByteArray} {kids : List Js} {A K : Option Addr} (h : JsV w B0 ns kids A K) (hu : Upon B0 w w') : JsV w' B0 ns kids A K := ⟨hu.row h.a h.l1, h.k.mv hu, h.l1⟩
theorem JsV.keep {w w' : World} {B0 : Nat} {ns : List ByteArray} {kids : List Js} {A K : Option Addr} (h : JsV w B0 ns kids A K) (hb : Below w.heap.size w w') : JsV w' B0 ns kids A K := h.mv (.of_below hb)
theorem JsV.low {w : World} {B0 B1 : Nat} {ns : List ByteArray} {kids : List Js} {A K : Option Addr} (h : JsV w B0 ns kids A K) (hB : B1 ≤ B0) : JsV w B1 ns kids A K := ⟨h.a, h.k.low hB, fun x e => by have := h.l1 x e; omega⟩

/-- The cells of a value, as a load of it finds them. -/
structure JsCells (w : World) (b off : Nat) (k : Int) (f : Bool) (t : ByteArray) (ns : List ByteArray) (kids : List Js) (A K : Option Addr) (ca kc : Nat) : Prop where
  c0 : w.cell? ⟨b, off, none⟩ = some (.int .i64 k)
  c1 : w.cell? ⟨b, off + 1, none⟩ = some (.bool f)
  c2 : w.cell? ⟨b, off + 2, none⟩ = some (.string t)
  c3 : w.cell? ⟨b, off + 3, none⟩ = some (.slice A ns.length ca)
  c4 : w.cell? ⟨b, off + 4, none⟩ = some (.slice K kids.length kc)
  le : ns.length ≤ ca
theorem JsAt.open_ {w : World} {B0 b off : Nat} {k : Int} {f : Bool} {t : ByteArray} {ns : List ByteArray} {kids : List Js} (h : JsAt w B0 b off (.mk k f t ns kids)) :
    ∃ A K ca kc, JsCells w b off k f t ns kids A K ca kc ∧ JsV w B0 ns kids A K := by
  cases h with
  | mk _ _ _ _ _ _ _ A K ca kc kb ko c0 c1 c2 c3 c4 le hA hK hk l0 l1 => exact ⟨A, K, ca, kc, ⟨c0, c1, c2, c3, c4, le⟩, hA, ⟨kb, ko, hK, hk⟩, l1⟩
theorem JsCells.mk_ {w : World} {B0 b off : Nat} {k : Int} {f : Bool} {t : ByteArray} {ns : List ByteArray} {kids : List Js} {A K : Option Addr} {ca kc : Nat} (h : JsCells w b off k f t ns kids A K ca kc) (hv : JsV w B0 ns kids A K) (hb : B0 ≤ b) : JsAt w B0 b off (.mk k f t ns kids) := by
  obtain ⟨kb, ko, hK, hk⟩ := hv.k
  exact .mk b off k f t ns kids A K ca kc kb ko h.c0 h.c1 h.c2 h.c3 h.c4 h.le hv.a hK hk hb hv.l1

/-- What sizing leaves: below 0, or all of it is small. -/
def SzPost (S : Prop) (w : World) (e : Ending) (w' : World) : Prop := ∃ r : Int, e = .returned (.int .i64 r) ∧ r ≤ 1048576 ∧ (r < 0 ∨ (0 ≤ r ∧ S)) ∧ Below w.heap.size w w'

set_option maxRecDepth 100000 in
set_option maxHeartbeats 1000000 in
theorem szNames_any (ns : List ByteArray) (a : Option Addr) (c : Nat) (left : Int) (w : World) (hr : Row w a (strs ns)) (hm : ns.length ≤ maxLen) (hn : ∀ n ∈ ns, n.size ≤ maxLen) (h0 : 0 ≤ left) (h1 : left ≤ 1048576) :
    Calls Tryz.prog 34 #[.slice a ns.length c, .int .i64 left] w (SzPost (ns.length ≤ 1048576 ∧ ∀ n ∈ ns, n.size ≤ 1048576) w) := by
  have HR := Lib.hid hr
  have HN := Lib.hid hn
  unfold maxLen at hm
  clear hr hn
  by_cases hneg : left - (ns.length : Int) < 0
  · go_enter Tryz.func34, Tryz.ntmps34
    go_wp2
    go_ret
    exact ⟨-1, rfl, by omega, .inl (by omega), Below.refl _ _⟩
  · have hkl : ns.length ≤ 1048576 := by omega
    go_enter Tryz.func34, Tryz.ntmps34
    go_wp2
    go_loopw [1, 5] (fun q i wr => ∃ j : Nat, j ≤ ns.length ∧ i = .int .i64 j ∧ (∃ z : Int, q = .int .i64 z ∧ 0 ≤ z ∧ z ≤ 1048576) ∧ Hid (∀ u (h : u < ns.length), u < j → ns[u].size ≤ 1048576) ∧ Below w.heap.size w wr) (fun _ i _ => ns.length - (intOf i).toNat)
    case atStart => exact ⟨0, Nat.zero_le _, rfl, ⟨_, rfl, by omega, by omega⟩, fun u _ hu => by omega, Below.refl _ _⟩
    case round =>
      obtain ⟨j, hj, rfl, ⟨z, rfl, hz0, hz1⟩, HU, hb⟩ := hrel
      by_cases hlt : j < ns.length
      · have hlt' : (j : Int) < (ns.length : Int) := by omega
        obtain ⟨b, off, rfl, hc⟩ := (HR.out.keep hb).str hlt
        have hsz := HN.out _ (List.getElem_mem hlt)
        unfold maxLen at hsz
        have HU2 : Hid (ns[j].size ≤ 1048576 → ∀ u (h : u < ns.length), u < j + 1 → ns[u].size ≤ 1048576) := fun h1 u hu huj => by
          rcases Nat.lt_succ_iff_lt_or_eq.1 huj with h3 | h3
          · exact HU.out u hu h3
          · subst h3; exact h1
        generalize ns[j] = s at *
        by_cases hs : z - (s.size : Int) < 0
        · go_wp2
          go_ret
          exact ⟨-1, rfl, by omega, .inl (by omega), hb⟩
        · have HU3 := Lib.hid (HU2.out (by omega))
          clear HU HU2
          go_wp2
          go_roundw
          case rel => exact ⟨j + 1, by omega, by go_num, ⟨_, rfl, by omega, by omega⟩, HU3, hb⟩
          case measure => simp [intOf]; omega
      · have hlt' : ¬ (j : Int) < (ns.length : Int) := by omega
        go_wp2
        go_ret
        refine ⟨z, rfl, hz1, .inr ⟨hz0, fun n hn => ?_⟩, hb⟩
        obtain ⟨u, hu, rfl⟩ := List.getElem_of_mem hn
        exact HU.out u hu (by omega)

/-- Sizing of values that are at most so high. -/
def SzP (n : Nat) : Prop := ∀ (k : Int) (f : Bool) (t : ByteArray) (ns : List ByteArray) (kids : List Js) (A K : Option Addr) (ca kc B0 : Nat) (left : Int) (w : World), htJ kids + 1 ≤ n → JsV w B0 ns kids A K → LimJ maxLen (.mk k f t ns kids) → 0 ≤ left → left ≤ 1048576 →
  Calls Tryz.prog 20 #[.agg #[.int .i64 k, .bool f, .string t, .slice A ns.length ca, .slice K kids.length kc], .int .i64 left] w (SzPost (LimJ 1048576 (.mk k f t ns kids)) w)

set_option maxRecDepth 100000 in
set_option maxHeartbeats 1000000 in
theorem szKids_any {n : Nat} (IH : SzP n) (kids : List Js) (K : Option Addr) (kc B0 : Nat) (left : Int) (w : World) (hh : htJ kids ≤ n) (hk : Jss w B0 K kids) (hm : kids.length ≤ maxLen) (hl : ∀ p ∈ kids, LimJ maxLen p) (h0 : 0 ≤ left) (h1 : left ≤ 1048576) :
    Calls Tryz.prog 46 #[.slice K kids.length kc, .int .i64 left] w (SzPost (kids.length ≤ 1048576 ∧ ∀ p ∈ kids, LimJ 1048576 p) w) := by
  have HI := Lib.hid IH
  have HK := Lib.hid hk
  have HL := Lib.hid hl
  have HH := Lib.hid hh
  unfold maxLen at hm
  clear IH hk hl hh
  by_cases hneg : left - (kids.length : Int) < 0
  · go_enter Tryz.func46, Tryz.ntmps46
    go_wp2
    go_ret
    exact ⟨-1, rfl, by omega, .inl (by omega), Below.refl _ _⟩
  · have hkl : kids.length ≤ 1048576 := by omega
    go_enter Tryz.func46, Tryz.ntmps46
    go_wp2
    go_loopw [1, 5] (fun q i wr => ∃ j : Nat, j ≤ kids.length ∧ i = .int .i64 j ∧ (∃ z : Int, q = .int .i64 z ∧ 0 ≤ z ∧ z ≤ 1048576) ∧ Hid (∀ u (h : u < kids.length), u < j → LimJ 1048576 kids[u]) ∧ Below w.heap.size w wr) (fun _ i _ => kids.length - (intOf i).toNat)
    case atStart => exact ⟨0, Nat.zero_le _, rfl, ⟨_, rfl, by omega, by omega⟩, fun u _ hu => by omega, Below.refl _ _⟩
    case round =>
      obtain ⟨j, hj, rfl, ⟨z, rfl, hz0, hz1⟩, HU, hb⟩ := hrel
      by_cases hlt : j < kids.length
      · have hlt' : (j : Int) < (kids.length : Int) := by omega
        obtain ⟨b, off, rfl, hp⟩ := (HK.out.keep hb).at_ hlt
        have hmem := List.getElem_mem hlt
        have hlim := HL.out _ hmem
        have hht := htJ_mem hmem
        have HUJ : Hid (LimJ 1048576 kids[j] → ∀ u (h : u < kids.length), u < j + 1 → LimJ 1048576 kids[u]) := fun h1 u hu huj => by
          rcases Nat.lt_succ_iff_lt_or_eq.1 huj with h3 | h3
          · exact HU.out u hu h3
          · subst h3; exact h1
        clear hmem
        generalize kids[j] = p at *
        obtain ⟨pk, pf, pt, pns, pkids⟩ := p
        rw [htJ_mk] at hht
        obtain ⟨PA, PK, pa, pc, hc, hv⟩ := hp.open_
        obtain ⟨c0, c1, c2, c3, c4⟩ := hc
        have HC := Lib.hid (HI.out pk pf pt pns pkids PA PK pa pc B0 z wr (by have := HH.out; omega) hv hlim hz0 hz1)
        clear hp hv hlim hht
        go_wp2_with fail
        refine HC.out.mono ?_
        rintro e w2 ⟨r, rfl, hr1, hr, hb2⟩
        have hb' : Below w.heap.size w w2 := hb.trans (hb2.mono hb.size)
        have HRR := Lib.hid hr
        clear hb hb2 HC c0 c1 c2 c3 c4 hr
        by_cases hr0 : r < 0
        · go_wp2
          go_ret
          exact ⟨-1, rfl, by omega, .inl (by omega), hb'⟩
        · have HU2 := Lib.hid (HUJ.out (HRR.out.resolve_left hr0).2)
          go_wp2
          go_roundw
          case rel => exact ⟨j + 1, by omega, by go_num, ⟨r, rfl, by omega, by omega⟩, HU2, hb'⟩
          case measure => simp [intOf]; omega
      · have hlt' : ¬ (j : Int) < (kids.length : Int) := by omega
        go_wp2
        go_ret
        refine ⟨z, rfl, hz1, .inr ⟨hz0, fun p hp => ?_⟩, hb⟩
        obtain ⟨u, hu, rfl⟩ := List.getElem_of_mem hp
        exact HU.out u hu (by omega)

set_option maxRecDepth 100000 in
set_option maxHeartbeats 1000000 in
theorem szStep {n : Nat} (IH : SzP n) : SzP (n + 1) := by
  intro k f t ns kids A K ca kc B0 left w hh hv hl h0 h1
  have HI := Lib.hid IH
  have HV := Lib.hid hv
  cases hl with
  | mk _ _ _ _ _ l1 l2 l3 l4 l5 =>
  have HL5 := Lib.hid l5
  have HL3 := Lib.hid l3
  have hm1 := l1
  unfold maxLen at hm1
  clear IH hv l5 l1 l3
  by_cases g1 : left - (t.size : Int) < 0
  · go_enter Tryz.func20, Tryz.ntmps20
    go_wp2
    go_ret
    exact ⟨-1, rfl, by omega, .inl (by omega), below_box _⟩
  · have HBX := Lib.hid (below_box (w := w) (.cells #[.int .i64 k, .bool f, .string t, .slice A ns.length ca, .slice K kids.length kc] 37))
    have HCN := Lib.hid (szNames_any ns A ca (left - (t.size : Int)) _ (HV.out.a.keep HBX.out) l2 HL3.out (by omega) (by omega))
    go_enter Tryz.func20, Tryz.ntmps20
    go_wp2_with fail
    refine HCN.out.mono ?_
    rintro e w1 ⟨r1, rfl, hr1, hr1', hb1⟩
    have HB1 := Lib.hid (HBX.out.trans (hb1.mono (by simp)))
    have k4 : w1.cell? ⟨w.heap.size, 4, none⟩ = some (.slice K kids.length kc) := cell_keep hb1 (by simp)
    have kl := cell_lt k4
    simp only at kl
    have HR1 := Lib.hid hr1'
    clear hb1 hr1' HCN
    by_cases g2 : r1 < 0
    · have hb := HB1.out
      go_wp2
      go_ret
      exact ⟨-1, rfl, by omega, .inl (by omega), hb⟩
    · have HCK := Lib.hid (szKids_any HI.out kids K kc B0 r1 w1 (by omega) (HV.out.k.keep HB1.out) l4 HL5.out (by omega) (by omega))
      go_wp2_with fail
      refine HCK.out.mono ?_
      rintro e w3 ⟨r3, rfl, hr3, hr3', hb3⟩
      have hb : Below w.heap.size w w3 := HB1.out.trans (hb3.mono HB1.out.size)
      have HR3 := Lib.hid hr3'
      clear hb3 hr3' HCK k4 kl
      by_cases g4 : r3 < 0
      · go_wp2
        go_ret
        exact ⟨-1, rfl, by omega, .inl (by omega), hb⟩
      · have HS : Hid (LimJ 1048576 (.mk k f t ns kids)) := by
          obtain ⟨_, q1, q2⟩ := HR3.out.resolve_left g4
          obtain ⟨_, q3, q4⟩ := HR1.out.resolve_left (by omega)
          exact .mk k f t ns kids (by omega) q3 q4 q1 q2
        go_wp2
        go_ret
        exact ⟨r3, rfl, hr3, .inr ⟨by omega, HS.out⟩, hb⟩

theorem sz_all : ∀ n, SzP n
  | 0 => by intro k f t ns kids A K ca kc B0 left w hh; omega
  | n + 1 => szStep (sz_all n)

end Go.Proofs.YtkhcappjhefkjaaGreatDoor

