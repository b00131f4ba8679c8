/- The tree of pieces, twice: as the specification grows it, and as the program does; both are one. Plain mathematics. -/
import Derived.Test.YtcanhkngikeeiaaV2
namespace Go.Proofs.Ytcanhkngikeeiaa
open Go.Sort
set_option linter.unusedVariables false

section
variable {σ τ : Type}
/-- The nodes below one: where the kids stand, and all nodes. -/
def forest (tr : Nat → Int → σ → List Node) : Nat → List (Int × σ) → List Int × List Node
  | _, [] => ([], [])
  | base, x :: l => ((base : Int) :: (forest tr (base + (tr base x.1 x.2).length) l).1, tr base x.1 x.2 ++ (forest tr (base + (tr base x.1 x.2).length) l).2)
def tree (ids : σ → List Int) (next : σ → List (Int × σ)) : Nat → Nat → Int → σ → List Node
  | 0, _, b, s => [⟨b, [], ids s⟩]
  | f + 1, base, b, s => ⟨b, (forest (tree ids next f) (base + 1) (next s)).1, ids s⟩ :: (forest (tree ids next f) (base + 1) (next s)).2

theorem forest_nil (tr : Nat → Int → σ → List Node) (base : Nat) : forest tr base [] = ([], []) := rfl
theorem forest_cons (tr : Nat → Int → σ → List Node) (base : Nat) (x : Int × σ) (l : List (Int × σ)) : forest tr base (x :: l) = ((base : Int) :: (forest tr (base + (tr base x.1 x.2).length) l).1, tr base x.1 x.2 ++ (forest tr (base + (tr base x.1 x.2).length) l).2) := rfl
theorem forest_append (tr : Nat → Int → σ → List Node) : ∀ (l l' : List (Int × σ)) (base : Nat), forest tr base (l ++ l') = ((forest tr base l).1 ++ (forest tr (base + (forest tr base l).2.length) l').1, (forest tr base l).2 ++ (forest tr (base + (forest tr base l).2.length) l').2)
  | [], l', base => by simp [forest_nil]
  | x :: l, l', base => by
    rw [List.cons_append, forest_cons, forest_append tr l l', forest_cons]
    simp [Nat.add_assoc]
theorem forest_snoc (tr : Nat → Int → σ → List Node) (l : List (Int × σ)) (x : Int × σ) (base : Nat) : forest tr base (l ++ [x]) = ((forest tr base l).1 ++ [((base + (forest tr base l).2.length : Nat) : Int)], (forest tr base l).2 ++ tr (base + (forest tr base l).2.length) x.1 x.2) := by
  rw [forest_append]
  simp [forest]

theorem forest_congr (R : σ → τ → Prop) {t1 : Nat → Int → σ → List Node} {t2 : Nat → Int → τ → List Node} (ht : ∀ base b s t, R s t → t1 base b s = t2 base b t) (g1 : Int → σ) (g2 : Int → τ) : ∀ (l : List Int), (∀ c ∈ l, R (g1 c) (g2 c)) → ∀ base, forest t1 base (l.map (fun c => (c, g1 c))) = forest t2 base (l.map (fun c => (c, g2 c)))
  | [], _, base => rfl
  | c :: l, h, base => by
    rw [List.map_cons, List.map_cons, forest_cons, forest_cons]
    simp only
    rw [ht base c (g1 c) (g2 c) (h c (by simp)), forest_congr R ht g1 g2 l (fun x hx => h x (by simp [hx]))]
theorem tree_congr (R : σ → τ → Prop) {i1 : σ → List Int} {i2 : τ → List Int} {n1 : σ → List (Int × σ)} {n2 : τ → List (Int × τ)} (h : ∀ s t, R s t → i1 s = i2 t ∧ ∃ (l : List Int) (g1 : Int → σ) (g2 : Int → τ), n1 s = l.map (fun c => (c, g1 c)) ∧ n2 t = l.map (fun c => (c, g2 c)) ∧ ∀ c ∈ l, R (g1 c) (g2 c)) :
    ∀ f base b s t, R s t → tree i1 n1 f base b s = tree i2 n2 f base b t
  | 0, base, b, s, t, hR => by unfold tree; rw [(h s t hR).1]
  | f + 1, base, b, s, t, hR => by
    obtain ⟨h1, l, g1, g2, h2, h3, h4⟩ := h s t hR
    unfold tree
    rw [h1, h2, h3, forest_congr R (fun base b s t hR => tree_congr R h f base b s t hR) g1 g2 l h4]
end

section
variable {α : Type}
/-- What comes first stays first. -/
theorem while_filter (p : α → Bool) : ∀ (l : List α), l.Pairwise (fun x y => p y = true → p x = true) → l.takeWhile p = l.filter p ∧ l.dropWhile p = l.filter (fun x => !p x)
  | [], _ => ⟨rfl, rfl⟩
  | x :: l, h => by
    rw [List.pairwise_cons] at h
    obtain ⟨h1, h2⟩ := h
    obtain ⟨i1, i2⟩ := while_filter p l h2
    cases hx : p x with
    | true => rw [List.takeWhile_cons, List.dropWhile_cons, List.filter_cons, List.filter_cons, hx]; simp [i1, i2]
    | false =>
      have hn : ∀ y ∈ l, p y = false := fun y hy => by
        cases hy2 : p y with
        | false => rfl
        | true => have := h1 y hy hy2; rw [hx] at this; cases this
      rw [List.takeWhile_cons, List.dropWhile_cons, List.filter_cons, List.filter_cons, hx]
      refine ⟨?_, ?_⟩
      · simp only [Bool.false_eq_true, if_false]
        exact (List.filter_eq_nil_iff.2 (fun y hy => by rw [hn y hy]; decide)).symm
      · simp only [Bool.false_eq_true, if_false, Bool.not_false, if_true]
        rw [List.filter_eq_self.2 (fun y hy => by rw [hn y hy]; rfl)]

/-- Rising lists with the same members are one. -/
theorem rising_eq : ∀ (l l' : List Int), l.Pairwise (· < ·) → l'.Pairwise (· < ·) → (∀ x, x ∈ l ↔ x ∈ l') → l = l'
  | [], [], _, _, _ => rfl
  | [], y :: l', _, _, h => by have := (h y).2 (by simp); simp at this
  | x :: l, [], _, _, h => by have := (h x).1 (by simp); simp at this
  | x :: l, y :: l', h1, h2, h => by
    rw [List.pairwise_cons] at h1 h2
    have e : x = y := by
      have a := (h x).1 (by simp)
      have b := (h y).2 (by simp)
      simp only [List.mem_cons] at a b
      rcases a with a | a
      · exact a
      · rcases b with b | b
        · exact b.symm
        · have := h1.1 y b; have := h2.1 x a; omega
    subst e
    rw [rising_eq l l' h1.2 h2.2 (fun z => ?_)]
    have hz := h z
    simp only [List.mem_cons] at hz
    constructor
    · intro hm
      rcases hz.1 (.inr hm) with e | e
      · subst e; have := h1.1 z hm; omega
      · exact e
    · intro hm
      rcases hz.2 (.inr hm) with e | e
      · subst e; have := h2.1 z hm; omega
      · exact e
end

/-- The byte of a piece at a depth. -/
def byAt (dep : Nat) (x : PP) : Int := ((x.1.data.getD dep 0).toNat : Int)
/-- Pieces by their byte at a depth, as they come. -/
def groups (dep : Nat) : Nat → List PP → List (Int × Nat × List PP)
  | 0, _ => []
  | _ + 1, [] => []
  | n + 1, x :: l => (byAt dep x, dep + 1, (x :: l).takeWhile (fun y => byAt dep y == byAt dep x)) :: groups dep n ((x :: l).dropWhile (fun y => byAt dep y == byAt dep x))
/-- Which pieces end at a depth. -/
def endsB (dep : Nat) (x : PP) : Bool := decide (x.1.size = dep)
def idsI (s : Nat × List PP) : List Int := (s.2.takeWhile (endsB s.1)).map (·.2)
def nextI (s : Nat × List PP) : List (Int × Nat × List PP) := groups s.1 s.2.length (s.2.dropWhile (endsB s.1))

def idsS (ss : List ByteArray) (en : Int) (t : ByteArray) : List Int := begIds ss en t ss.length
def nextS (ss : List ByteArray) (en : Int) (t : ByteArray) : List (Int × ByteArray) := (bytesTo (begUsed ss en t ss.length) 256).map (fun c => (c, t.push c.toNat.toUInt8))

/-- Pieces that begin with a text. -/
def preB (t : ByteArray) (x : PP) : Bool := fitsB x.1 t

theorem groups_form (dep : Nat) : ∀ (n : Nat) (l : List PP), l.length ≤ n → l.Pairwise (fun x y => byAt dep x ≤ byAt dep y) →
    groups dep n l = ((groups dep n l).map (·.1)).map (fun c => (c, dep + 1, l.filter (fun y => byAt dep y == c))) ∧ ((groups dep n l).map (·.1)).Pairwise (· < ·) ∧ ∀ c, c ∈ (groups dep n l).map (·.1) ↔ ∃ y ∈ l, byAt dep y = c
  | 0, l, hn, _ => by
    have : l = [] := List.length_eq_zero_iff.1 (by omega)
    subst this
    simp [groups]
  | n + 1, [], _, _ => by simp [groups]
  | n + 1, x :: l, hn, hp => by
    have hmin : ∀ y ∈ x :: l, byAt dep x ≤ byAt dep y := by
      intro y hy
      rcases List.mem_cons.1 hy with e | e
      · subst e; exact Int.le_refl _
      · exact (List.pairwise_cons.1 hp).1 y e
    have hw := while_filter (fun y => byAt dep y == byAt dep x) (x :: l) (by
      refine List.Pairwise.imp_of_mem ?_ hp
      intro a b ha hb hab e
      have h1 := hmin a ha
      simp only [beq_iff_eq] at e ⊢
      omega)
    have hr : (x :: l).dropWhile (fun y => byAt dep y == byAt dep x) = (x :: l).filter (fun y => !(byAt dep y == byAt dep x)) := hw.2
    have hlen : ((x :: l).dropWhile (fun y => byAt dep y == byAt dep x)).length ≤ n := by
      rw [hr, List.filter_cons]
      simp only [beq_self_eq_true, Bool.not_true, Bool.false_eq_true, if_false]
      have := List.length_filter_le (fun y => !(byAt dep y == byAt dep x)) l
      simp at hn; omega
    obtain ⟨i1, i2, i3⟩ := groups_form dep n _ hlen (by rw [hr]; exact hp.sublist List.filter_sublist)
    have hgt : ∀ c, c ∈ (groups dep n ((x :: l).dropWhile (fun y => byAt dep y == byAt dep x))).map (·.1) → byAt dep x < c := by
      intro c hc
      obtain ⟨y, hy, rfl⟩ := (i3 c).1 hc
      rw [hr, List.mem_filter] at hy
      have := hmin y hy.1
      have h2 := hy.2
      simp only [Bool.not_eq_true', beq_eq_false_iff_ne, ne_eq] at h2
      omega
    refine ⟨?_, ?_, fun c => ?_⟩
    · unfold groups
      rw [List.map_cons, List.map_cons]
      congr 1
      · rw [hw.1]
      · conv => lhs; rw [i1]
        refine List.map_congr_left (fun c hc => ?_)
        have hc' := hgt c hc
        rw [hr, List.filter_filter]
        congr 2
        refine List.filter_congr (fun y hy => ?_)
        by_cases e : byAt dep y = c
        · simp [e]; omega
        · simp [e]
    · unfold groups
      rw [List.map_cons, List.pairwise_cons]
      exact ⟨hgt, i2⟩
    · unfold groups
      rw [List.map_cons, List.mem_cons, i3]
      constructor
      · rintro (rfl | ⟨y, hy, rfl⟩)
        · exact ⟨x, by simp, rfl⟩
        · rw [hr, List.mem_filter] at hy; exact ⟨y, hy.1, rfl⟩
      · rintro ⟨y, hy, rfl⟩
        by_cases e : byAt dep y = byAt dep x
        · exact .inl e
        · right
          refine ⟨y, ?_, rfl⟩
          rw [hr, List.mem_filter]
          exact ⟨hy, by simpa using e⟩

end Go.Proofs.Ytcanhkngikeeiaa
