/- Stable sorting, the plain mathematics: pieces with their places; insertion sort by the bytes alone is one by bytes and places. -/
import Derived.Sort.LotA
namespace Go.Proofs.Ytcanhkngikeeiaa
open Go.Sort

/-- A piece: its bytes and its place. -/
abbrev PP := ByteArray × Int
/-- Its bytes, as a list. -/
def tl (x : PP) : List UInt8 := x.1.data.toList
/-- By the bytes alone. -/
def ltT (x y : PP) : Bool := decide (tl x < tl y)
/-- By the bytes, then by the place. -/
def ltL (x y : PP) : Bool := ltT x y || (decide (tl x = tl y) && decide (x.2 < y.2))

theorem ltL_iff (x y : PP) : ltL x y = true ↔ tl x < tl y ∨ (tl x = tl y ∧ x.2 < y.2) := by simp [ltL, ltT]
theorem ltL_no (x y : PP) : ltL x y = false ↔ ¬ (tl x < tl y ∨ (tl x = tl y ∧ x.2 < y.2)) := by rw [← ltL_iff]; simp
theorem swo_ltL : SWO ltL where
  irrefl x := by rw [ltL_no]; rintro (h | ⟨_, h⟩); exact List.lt_irrefl _ h; omega
  trans x y z := by
    simp only [ltL_iff]
    rintro (h1 | ⟨h1, h1'⟩) (h2 | ⟨h2, h2'⟩)
    · exact .inl (List.lt_trans h1 h2)
    · exact .inl (h2 ▸ h1)
    · exact .inl (h1 ▸ h2)
    · exact .inr ⟨h1.trans h2, by omega⟩
  ntrans x y z := by
    simp only [ltL_no, not_or, not_and]
    rintro ⟨h1, h1'⟩ ⟨h2, h2'⟩
    have k1 : tl y ≤ tl x := List.not_lt.1 h1
    have k2 : tl z ≤ tl y := List.not_lt.1 h2
    refine ⟨fun h => ?_, fun e => ?_⟩
    · exact List.not_lt.2 (List.le_trans k2 k1) h
    · have e1 : tl x = tl y := List.le_antisymm (e ▸ k2) k1
      have := h1' e1
      have := h2' (e1.symm.trans e)
      omega

theorem ltT_of_id {x y : PP} (h : y.2 < x.2) : ltT x y = ltL x y := by
  unfold ltL
  have : decide (x.2 < y.2) = false := by simp; omega
  rw [this]; simp

theorem insInner_congr (a : Nat) : ∀ (j : Nat) (d : Array PP), j < d.size → (∀ x, a ≤ x → x < j → d[x]!.2 < d[j]!.2) → insInner ltT a j d = insInner ltL a j d
  | 0, d, _, _ => rfl
  | j + 1, d, hj, h => by
    unfold insInner
    by_cases ha : j + 1 > a
    · rw [ltT_of_id (h j (by omega) (by omega))]
      have g := swp_get d hj (show j < d.size by omega)
      rw [insInner_congr a j (swp d (j + 1) j) (by rw [swp_size]; omega) (fun x h1 h2 => by
        rw [g, g, if_neg (by omega), if_neg (by omega), if_pos rfl]
        exact h x h1 (by omega))]
    · simp [ha]

theorem insInner_keep {α : Type} [Inhabited α] (lt : α → α → Bool) (a : Nat) : ∀ (j : Nat) (d : Array α), j < d.size → a ≤ j →
    (insInner lt a j d).size = d.size ∧ (∀ x, x < a ∨ j < x → (insInner lt a j d)[x]! = d[x]!) ∧ ∀ p : α → Prop, (∀ x, a ≤ x → x ≤ j → p d[x]!) → ∀ x, a ≤ x → x ≤ j → p (insInner lt a j d)[x]!
  | 0, d, _, _ => ⟨rfl, fun _ _ => rfl, fun p h => h⟩
  | j + 1, d, hj, ha => by
    unfold insInner
    split
    · rename_i hc
      simp only [Bool.and_eq_true, decide_eq_true_eq] at hc
      have g := swp_get d hj (show j < d.size by omega)
      obtain ⟨i1, i2, i3⟩ := insInner_keep lt a j (swp d (j + 1) j) (by rw [swp_size]; omega) (by omega)
      refine ⟨by rw [i1, swp_size], fun x hx => ?_, fun p hp x h1 h2 => ?_⟩
      · rw [i2 x (by omega), g, if_neg (by omega), if_neg (by omega)]
      · by_cases hx : x ≤ j
        · refine i3 p (fun y k1 k2 => ?_) x h1 hx
          rw [g]
          split
          · exact hp _ (by omega) (by omega)
          · split
            · omega
            · exact hp _ k1 (by omega)
        · obtain rfl : x = j + 1 := by omega
          rw [i2 _ (by omega), g, if_neg (by omega), if_pos rfl]
          exact hp _ (by omega) (by omega)
    · exact ⟨rfl, fun _ _ => rfl, fun p h => h⟩

theorem insOuter_congr (a b : Nat) : ∀ (n i : Nat) (d : Array PP), b - i = n → a < i → b ≤ d.size → (∀ x y, a ≤ x → x < y → i ≤ y → y < b → d[x]!.2 < d[y]!.2) → insOuter ltT a b i d = insOuter ltL a b i d
  | 0, i, d, hn, _, _, _ => by
    have h1 : insOuter ltT a b i d = d := by rw [insOuter, if_neg (by omega)]
    have h2 : insOuter ltL a b i d = d := by rw [insOuter, if_neg (by omega)]
    rw [h1, h2]
  | n + 1, i, d, hn, hai, hb, h => by
    have hlt : i < b := by omega
    have h1 : insOuter ltT a b i d = insOuter ltT a b (i + 1) (insInner ltT a i d) := by rw [insOuter, if_pos hlt]
    have h2 : insOuter ltL a b i d = insOuter ltL a b (i + 1) (insInner ltL a i d) := by rw [insOuter, if_pos hlt]
    rw [h1, h2, insInner_congr a i d (by omega) (fun x h1 h2 => h x i h1 h2 (Nat.le_refl _) hlt)]
    obtain ⟨k1, k2, k3⟩ := insInner_keep ltL a i d (by omega) (by omega)
    refine insOuter_congr a b n (i + 1) _ (by omega) (by omega) (by omega) (fun x y h1 h2 h3 h4 => ?_)
    rw [k2 y (by omega)]
    by_cases hx : x ≤ i
    · exact k3 (fun v => v.2 < d[y]!.2) (fun z z1 z2 => h z y z1 (by omega) (by omega) h4) x h1 hx
    · rw [k2 x (by omega)]
      exact h x y h1 h2 (by omega) h4

/-- Places ascend. -/
def Asc (a b : Nat) (d : Array PP) : Prop := ∀ x y, a ≤ x → x < y → y < b → d[x]!.2 < d[y]!.2
theorem insertionSort_L {a b : Nat} {d : Array PP} (hb : b ≤ d.size) (h : Asc a b d) : insertionSort ltT d a b = insertionSort ltL d a b := by
  unfold insertionSort
  exact insOuter_congr a b _ (a + 1) d rfl (by omega) hb (fun x y h1 h2 h3 h4 => h x y h1 h2 h4)

/-- d with the places from a on turned: those from m to b first, those from a to m behind. -/
def Rot (a m b : Nat) (d d' : Array PP) : Prop :=
  d'.size = d.size ∧ ∀ k, d'[k]! = if a ≤ k ∧ k < a + (b - m) then d[k + (m - a)]! else if a + (b - m) ≤ k ∧ k < b then d[k - (b - m)]! else d[k]!
/-- d with two stretches of n places exchanged. -/
def Swr (a b n : Nat) (d d' : Array PP) : Prop :=
  d'.size = d.size ∧ ∀ k, d'[k]! = if a ≤ k ∧ k < a + n then d[k + (b - a)]! else if b ≤ k ∧ k < b + n then d[k - (b - a)]! else d[k]!

theorem Swr.zero (a b : Nat) (d : Array PP) : Swr a b 0 d d := ⟨rfl, fun k => by rw [if_neg (by omega), if_neg (by omega)]⟩
theorem at_eq (d : Array PP) {i j : Nat} (h : i = j) : d[i]! = d[j]! := by rw [h]
theorem Swr.step {a b i : Nat} {d d' : Array PP} (h : Swr a b i d d') (hab : a + i < b) (hb : b + i < d.size) : Swr a b (i + 1) d (swp d' (a + i) (b + i)) := by
  obtain ⟨h1, h2⟩ := h
  refine ⟨by rw [swp_size, h1], fun k => ?_⟩
  simp only [swp_get d' (show a + i < d'.size by omega) (show b + i < d'.size by omega), h2]
  repeat' split
  all_goals first | omega | exact at_eq _ (by omega)

/-- The turning is done when as many are left on both sides. -/
theorem Rot.last {m i : Nat} {d d' : Array PP} (h : Swr (m - i) m i d d') (hi : i ≤ m) : Rot (m - i) m (m + i) d d' := by
  refine ⟨h.1, fun k => ?_⟩
  rw [h.2]
  repeat' split
  all_goals first | omega | exact at_eq _ (by omega)
theorem Rot.more {m i j : Nat} {d d' d'' : Array PP} (hi : i ≤ m) (hij : j < i) (h : Swr (m - i) m j d d') (h' : Rot (m - (i - j)) m (m + j) d' d'') : Rot (m - i) m (m + j) d d'' := by
  refine ⟨h'.1.trans h.1, fun k => ?_⟩
  simp only [h'.2, h.2]
  repeat' split
  all_goals first | omega | exact at_eq _ (by omega)
theorem Rot.less {m i j : Nat} {d d' d'' : Array PP} (hi : i ≤ m) (hij : i < j) (h : Swr (m - i) (m + j - i) i d d') (h' : Rot (m - i) m (m + (j - i)) d' d'') : Rot (m - i) m (m + j) d d'' := by
  refine ⟨h'.1.trans h.1, fun k => ?_⟩
  simp only [h'.2, h.2]
  repeat' split
  all_goals first | omega | exact at_eq _ (by omega)
theorem Rot.none {a m b : Nat} (d : Array PP) (h : a = m ∨ m = b) (ham : a ≤ m) (hmb : m ≤ b) : Rot a m b d d := by
  refine ⟨rfl, fun k => ?_⟩
  repeat' split
  all_goals first | omega | exact at_eq _ (by omega)

end Go.Proofs.Ytcanhkngikeeiaa
