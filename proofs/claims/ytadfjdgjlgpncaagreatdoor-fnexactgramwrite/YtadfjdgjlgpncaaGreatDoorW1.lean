/- The text of a grammar, plain. -/
import Derived.Test.YtadfjdgjlgpncaaGreatDoorP13
import Derived.Test.YtadfjdgjlgpncaaGreatDoorW0
namespace Go.Proofs.YtadfjdgjlgpncaaGreatDoor
open Go.RowKit
set_option linter.unusedVariables false

def u8 (z : Int) : UInt8 := UInt8.ofNat z.toNat
def qO : List UInt8 := [34]
def cO : List UInt8 := [45, 93, 94]
def textT (t : ByteArray) : List UInt8 := 34 :: ((bl t).flatMap (escB qO) ++ [34])
def rangeT (lo hi : List Int) (i : Nat) : List UInt8 := escB cO (u8 (gi lo i)) ++ (if gi lo i < gi hi i then 45 :: escB cO (u8 (gi hi i)) else [])
def rangesT (lo hi : List Int) (n : Nat) : List UInt8 := (List.range n).flatMap (rangeT lo hi)
def classT (lo hi : List Int) : List UInt8 := 91 :: (rangesT lo hi lo.length ++ [93])
def paren (l : List UInt8) : List UInt8 := 40 :: (l ++ [41])
def encl (b : Bool) (l : List UInt8) : List UInt8 := if b = true then paren l else l
def joinT (sep : List UInt8) : List (List UInt8) → List UInt8
  | [] => []
  | x :: r => x ++ r.flatMap (fun y => sep ++ y)
theorem joinT_snoc (sep : List UInt8) (l : List (List UInt8)) (x : List UInt8) (h : l ≠ []) : joinT sep (l ++ [x]) = joinT sep l ++ sep ++ x := by
  cases l with
  | nil => exact absurd rfl h
  | cons y r => simp [joinT, List.flatMap_append]

mutual
def txt : Pt → List UInt8
  | .mk k t lo hi kids mn mx =>
    if k = 1 then textT t else if k = 2 then classT lo hi else if k = 3 then bl t
    else if k = 6 then txt3 kids ++ timesT mn mx
    else if k = 4 then (if kids.length = 0 then [40, 41] else joinT [32] (txtS kids))
    else joinT [32, 124, 32] (txtL kids)
def txtL : List Pt → List (List UInt8)
  | [] => []
  | p :: r => txt p :: txtL r
def txtS : List Pt → List (List UInt8)
  | [] => []
  | p :: r => encl (p.kind == 5) (txt p) :: txtS r
def txt3 : List Pt → List UInt8
  | [] => []
  | p :: _ => encl (decide (0 < p.kids.length)) (txt p)
end

theorem txtL_map (kids : List Pt) : txtL kids = kids.map txt := by
  induction kids with
  | nil => simp [txtL]
  | cons p r ih => simp [txtL, ih]
theorem txtS_map (kids : List Pt) : txtS kids = kids.map (fun p => encl (p.kind == 5) (txt p)) := by
  induction kids with
  | nil => simp [txtS]
  | cons p r ih => simp [txtS, ih]
theorem txt_1 {t : ByteArray} {lo hi : List Int} {kids : List Pt} {mn mx : Int} : txt (.mk 1 t lo hi kids mn mx) = textT t := by rw [txt]; simp
theorem txt_2 {t : ByteArray} {lo hi : List Int} {kids : List Pt} {mn mx : Int} : txt (.mk 2 t lo hi kids mn mx) = classT lo hi := by rw [txt]; simp
theorem txt_3 {t : ByteArray} {lo hi : List Int} {kids : List Pt} {mn mx : Int} : txt (.mk 3 t lo hi kids mn mx) = bl t := by rw [txt]; simp
theorem txt_4 {t : ByteArray} {lo hi : List Int} {kids : List Pt} {mn mx : Int} : txt (.mk 4 t lo hi kids mn mx) = if kids.length = 0 then [40, 41] else joinT [32] (kids.map (fun p => encl (p.kind == 5) (txt p))) := by rw [txt, txtS_map]; simp
theorem txt_5 {t : ByteArray} {lo hi : List Int} {kids : List Pt} {mn mx : Int} : txt (.mk 5 t lo hi kids mn mx) = joinT [32, 124, 32] (kids.map txt) := by rw [txt, txtL_map]; simp
theorem txt_6 {t : ByteArray} {lo hi : List Int} {p : Pt} {r : List Pt} {mn mx : Int} : txt (.mk 6 t lo hi (p :: r) mn mx) = encl (decide (0 < p.kids.length)) (txt p) ++ timesT mn mx := by rw [txt, txt3]; simp

/-! ### How long it is -/
theorem flat_len {α : Type} (f : α → List UInt8) (M : Nat) : ∀ (l : List α), (∀ x ∈ l, (f x).length ≤ M) → (l.flatMap f).length ≤ l.length * M
  | [], _ => by simp
  | x :: r, h => by
    have h1 := flat_len f M r (fun y hy => h y (List.mem_cons_of_mem _ hy))
    have h2 := h x (List.mem_cons_self ..)
    simp only [List.flatMap_cons, List.length_append, List.length_cons, Nat.add_mul, Nat.one_mul]
    omega
theorem class_low {lo hi : List Int} (h : ∀ u, u < lo.length → ClassAt lo hi u) : ∀ u, u < lo.length → 2 * (u : Int) ≤ gi lo u
  | 0, h0 => by have := (h 0 h0).1; omega
  | u + 1, h0 => by
    have h1 := class_low h u (by omega)
    obtain ⟨_, _, a3, _, _⟩ := h u (by omega)
    obtain ⟨_, _, _, _, b5⟩ := h (u + 1) h0
    have := b5 (by omega)
    simp only [Nat.add_sub_cancel] at this
    push_cast
    omega
theorem class_len {lo hi : List Int} (h : ClassP lo hi) : lo.length ≤ 128 := by
  rcases Nat.lt_or_ge 128 lo.length with h1 | h1
  · have h2 := class_low h.2.2 128 h1
    have := (h.2.2 128 h1).2.1
    omega
  · exact h1
theorem encl_len (b : Bool) (l : List UInt8) : (encl b l).length ≤ l.length + 2 := by unfold encl paren; split <;> simp
theorem times_len (mn mx : Int) : (timesT mn mx).length ≤ 5 := by
  unfold timesT
  split
  · simp
  split
  · simp
  split
  · simp
  split <;> simp
theorem join_len (sep : List UInt8) (f : Pt → List UInt8) : ∀ (kids : List Pt), (∀ p ∈ kids, (f p).length + sep.length ≤ 1000 * p.nodes) → (kids.flatMap (fun p => sep ++ f p)).length ≤ 1000 * nodesL kids
  | [], _ => by simp [nodesL]
  | p :: r, h => by
    have h1 := join_len sep f r (fun y hy => h y (List.mem_cons_of_mem _ hy))
    have h2 := h p (List.mem_cons_self ..)
    simp only [List.flatMap_cons, List.length_append, nodesL]
    omega
theorem joinT_len (sep : List UInt8) (f : Pt → List UInt8) (kids : List Pt) (h : ∀ p ∈ kids, (f p).length + sep.length ≤ 1000 * p.nodes) : (joinT sep (kids.map f)).length ≤ 1000 * nodesL kids := by
  have h1 := join_len sep f kids h
  cases kids with
  | nil => simp [joinT]
  | cons p r =>
    simp only [List.map_cons, joinT, List.length_append, List.flatMap_cons] at h1 ⊢
    rw [List.flatMap_map]
    omega

def NamesP (rs : List Ru) : Prop := ∀ x ∈ rs, x.name.size ≤ 8
theorem txt_len {rs : List Ru} (hn : NamesP rs) : ∀ (d : Nat) (p : Pt), p.ht ≤ d → OkP rs p → (txt p).length + 10 ≤ 1000 * p.nodes
  | 0, .mk k t lo hi kids mn mx, h, _ => by rw [ht_mk] at h; omega
  | d + 1, .mk k t lo hi kids mn mx, h, ho => by
    rw [ht_mk] at h
    cases ho with
    | mk _ _ _ _ _ _ _ ha hk =>
    have ih : ∀ p ∈ kids, (txt p).length + 10 ≤ 1000 * p.nodes := fun p hp => txt_len hn d p (Nat.le_trans (ht_mem hp) (by omega)) (hk p hp)
    rw [nodes_mk]
    obtain ⟨_, ha⟩ := ha
    rcases ha with ⟨rfl, a1, a2, _⟩ | ⟨rfl, _, _, a3⟩ | ⟨rfl, ⟨x, hx, rfl⟩, _⟩ | ⟨rfl, _⟩ | ⟨rfl, _⟩ | ⟨rfl, _, a2, _⟩
    · rw [txt_1]
      have := flat_len (escB qO) 3 (bl t) (fun x _ => (escB_len qO x).2)
      rw [bl_size] at a2
      simp only [textT, List.length_cons, List.length_append, List.length_nil]
      omega
    · rw [txt_2]
      have h1 := class_len a3
      have := flat_len (rangeT lo hi) 7 (List.range lo.length) (fun x _ => by
        unfold rangeT
        have h1 := (escB_len cO (u8 (gi lo x))).2
        have h2 := (escB_len cO (u8 (gi hi x))).2
        split <;> simp <;> omega)
      simp [classT, rangesT] at this ⊢
      omega
    · rw [txt_3]
      have := hn x hx
      rw [bl_size] at this
      omega
    · rw [txt_4]
      split
      · simp; omega
      · have := joinT_len [32] (fun p => encl (p.kind == 5) (txt p)) kids (fun p hp => by
          have h1 := ih p hp
          have h2 := encl_len (p.kind == 5) (txt p)
          simp only [List.length_cons, List.length_nil]
          omega)
        omega
    · rw [txt_5]
      have := joinT_len [32, 124, 32] txt kids (fun p hp => by have h1 := ih p hp; simp only [List.length_cons, List.length_nil]; omega)
      omega
    · cases kids with
      | nil => simp at a2
      | cons p r =>
        rw [txt_6]
        have h1 := ih p (List.mem_cons_self ..)
        have h2 := encl_len (decide (0 < p.kids.length)) (txt p)
        have h3 := times_len mn mx
        simp only [List.length_append, nodesL]
        omega

/-- A part as it is written where only parts of a rank may stand bare. -/
def ownR (k : Int) : Int := if k = 6 then 2 else if k = 4 then 1 else if k = 5 then 0 else 3
def wrapT (rank : Int) (p : Pt) : List UInt8 := if p.kind = 4 ∧ p.kids.length = 0 then txt p else encl (decide (ownR p.kind < rank)) (txt p)
theorem wrap0 (p : Pt) : wrapT 0 p = txt p := by
  unfold wrapT
  split
  · rfl
  · have : ¬ ownR p.kind < 0 := by unfold ownR; split; omega; split; omega; split <;> omega
    simp [encl, this]
theorem wrap1 {p : Pt} (h : p.kind ≠ 5) : wrapT 1 p = txt p := by
  unfold wrapT
  split
  · rfl
  · have : ¬ ownR p.kind < 1 := by unfold ownR; split; omega; split; omega; omega
    simp [encl, this]
theorem wrap2 {p : Pt} (h : p.kind ≠ 4) : wrapT 2 p = encl (p.kind == 5) (txt p) := by
  unfold wrapT
  rw [if_neg (fun h' => h h'.1)]
  have : (decide (ownR p.kind < 2)) = (p.kind == 5) := by
    unfold ownR
    by_cases h6 : p.kind = 6
    · simp [h6]
    · by_cases h5 : p.kind = 5
      · simp [h5]
      · simp [h6, h, h5]
  rw [this]
theorem wrap3 {rs : List Ru} {p : Pt} (h : OkP rs p) : wrapT 3 p = encl (decide (0 < p.kids.length)) (txt p) := by
  cases h with
  | mk k t lo hi kids mn mx ha hk =>
  unfold wrapT
  obtain ⟨_, ha⟩ := ha
  have e1 : (Pt.mk k t lo hi kids mn mx).kind = k := rfl
  have e2 : (Pt.mk k t lo hi kids mn mx).kids = kids := rfl
  simp only [e1, e2]
  generalize txt (Pt.mk k t lo hi kids mn mx) = T
  rcases ha with ⟨rfl, _, _, _, _, a⟩ | ⟨rfl, _, a, _⟩ | ⟨rfl, _, _, _, a⟩ | ⟨rfl, _⟩ | ⟨rfl, _, a, _⟩ | ⟨rfl, _, a, _⟩
  · simp [a, ownR, encl]
  · simp [a, ownR, encl]
  · simp [a, ownR, encl]
  · by_cases h0 : kids.length = 0
    · simp [h0, encl]
    · have h1 : 0 < kids.length := Nat.pos_of_ne_zero h0
      rw [if_neg (fun h => h0 h.2)]
      simp only [ownR, h1, decide_true]
      simp
  · have h1 : 0 < kids.length := by omega
    rw [if_neg (fun h => absurd h.1 (by decide))]
    simp only [ownR, h1, decide_true]
    simp
  · have h1 : 0 < kids.length := by omega
    rw [if_neg (fun h => absurd h.1 (by decide))]
    simp only [ownR, h1, decide_true]
    simp
end Go.Proofs.YtadfjdgjlgpncaaGreatDoor
