/- Plain facts on how a text is cut into pieces. -/
import Derived.Test.YtcanhkngikeeiaaL3
namespace Go.Proofs.Ytcanhkngikeeiaa
open Go.RowKit
set_option linter.unusedVariables false

/-- The best length only grows, and is that of whatever fits at least. -/
theorem bestLen_mono (ss : List ByteArray) (en : Int) (text : ByteArray) (k : Nat) : bestLen ss en text k ≤ bestLen ss en text (k + 1) := by
  by_cases h : plainB ss en k = true ∧ fitsB text (pieceAt ss k) = true ∧ bestLen ss en text k < (pieceAt ss k).size
  · rw [(bestTo_yes h.1 h.2.1 h.2.2).2]; omega
  · have := bestTo_no (ss := ss) (en := en) (text := text) (k := k) (by
      cases h1 : plainB ss en k
      · exact .inl rfl
      · cases h2 : fitsB text (pieceAt ss k)
        · exact .inr (.inl rfl)
        · exact .inr (.inr fun h3 => h ⟨h1, h2, h3⟩))
    rw [this.2]; exact Nat.le_refl _
theorem bestLen_ge (ss : List ByteArray) (en : Int) (text : ByteArray) (j : Nat) (h1 : plainB ss en j = true) (h2 : fitsB text (pieceAt ss j) = true) : ∀ k, j < k → (pieceAt ss j).size ≤ bestLen ss en text k := by
  intro k hk
  induction k with
  | zero => omega
  | succ k ih =>
    rcases Nat.lt_succ_iff_lt_or_eq.1 hk with h | h
    · exact Nat.le_trans (ih h) (bestLen_mono ss en text k)
    · subst h
      by_cases h3 : bestLen ss en text j < (pieceAt ss j).size
      · rw [(bestTo_yes h1 h2 h3).2]; exact Nat.le_refl _
      · exact Nat.le_trans (by omega) (bestLen_mono ss en text j)

/-- What is taken is the first of equal ones. -/
theorem bestTo_first (ss : List ByteArray) (en : Int) (text : ByteArray) (k : Nat) (x : Nat) (h : bestTo ss en text k = x) (j : Nat) (hj : j < x) (hje : (j : Int) ≠ en) : pieceAt ss j ≠ pieceAt ss x := by
  induction k with
  | zero => simp [bestTo] at h
  | succ k ih =>
    by_cases hc : plainB ss en k = true ∧ fitsB text (pieceAt ss k) = true ∧ bestLen ss en text k < (pieceAt ss k).size
    · have h4 := (bestTo_yes hc.1 hc.2.1 hc.2.2).1
      rw [h] at h4
      have hxk : x = k := by omega
      subst hxk
      intro heq
      have hp : plainB ss en j = true := by
        have h5 := hc.1
        unfold plainB at h5 ⊢
        simp only [Bool.and_eq_true, bne_iff_ne, ne_eq, decide_eq_true_eq] at h5 ⊢
        exact ⟨hje, by rw [heq]; exact h5.2⟩
      have := bestLen_ge ss en text j hp (by rw [heq]; exact hc.2.1) x hj
      rw [heq] at this
      omega
    · have h4 := bestTo_no (ss := ss) (en := en) (text := text) (k := k) (by
        cases h1 : plainB ss en k
        · exact .inl rfl
        · cases h2 : fitsB text (pieceAt ss k)
          · exact .inr (.inl rfl)
          · exact .inr (.inr fun h3 => hc ⟨h1, h2, h3⟩))
      rw [h4.1] at h
      exact ih h

/-- The tokens are those that are taken one behind the other, and nothing is left. -/
def CutR (ss : List ByteArray) (en : Int) : List Int → ByteArray → Prop
  | [], text => text.size = 0
  | x :: xs, text => 0 ≤ x ∧ bestTo ss en text ss.length = x ∧ CutR ss en xs (text.extract (pieceAt ss x.toNat).size text.size)

theorem longGo_cut (ss : List ByteArray) (en : Int) : ∀ (n : Nat) (out : List Int) (text : ByteArray) (r : List Int), longGo ss en n out text = some r → ∃ t, r = out ++ t ∧ CutR ss en t text ∧ (out.length ≤ 60 → r.length ≤ 60)
  | 0, _, _, _, h => by simp [longGo] at h
  | n + 1, out, text, r, h => by
    rw [longGo] at h
    by_cases h0 : text.size = 0
    · rw [if_pos h0] at h
      injection h with h
      exact ⟨[], by simp [h], h0, fun hl => by rw [← h]; exact hl⟩
    · rw [if_neg h0] at h
      by_cases h1 : bestTo ss en text ss.length < 0 ∨ 60 ≤ out.length
      · rw [if_pos h1] at h; cases h
      · rw [if_neg h1] at h
        obtain ⟨t, ht, hc, hl⟩ := longGo_cut ss en n _ _ r h
        refine ⟨bestTo ss en text ss.length :: t, by rw [ht]; simp, ⟨by omega, rfl, hc⟩, fun _ => hl (by simp; omega)⟩

theorem vocLongR_cut {ss : List ByteArray} {en : Int} {text : ByteArray} {r : List Int} (h : vocLongR ss en text = some r) : CutR ss en r text ∧ vocOkB ss en = true ∧ r.length ≤ 60 := by
  unfold vocLongR at h
  cases hok : vocOkB ss en
  · rw [hok] at h; simp at h
  · rw [hok] at h
    simp at h
    obtain ⟨t, ht, hc, hl⟩ := longGo_cut ss en 61 [] text r h
    simp at ht
    subst ht
    exact ⟨hc, rfl, hl (by simp)⟩

/-- Each token that is taken. -/
theorem CutR.at_ {ss : List ByteArray} {en : Int} : ∀ {r : List Int} {text : ByteArray}, CutR ss en r text → ∀ i (hi : i < r.length), ∃ (x : Nat) (tx : ByteArray), r[i] = x ∧ bestTo ss en tx ss.length = x
  | [], _, _, i, hi => by simp at hi
  | x :: xs, text, h, 0, _ => ⟨x.toNat, text, by have := h.1; simp; omega, by rw [h.2.1]; have := h.1; omega⟩
  | x :: xs, text, h, i + 1, hi => CutR.at_ h.2.2 i (by simpa using hi)

/-- What the law FnVocFirst asks of each token. -/
theorem CutR.first {ss : List ByteArray} {en : Int} {r : List Int} {text : ByteArray} (h : CutR ss en r text) (i : Nat) (hi : i < r.length) :
    ∃ x : Nat, r[i] = x ∧ x < ss.length ∧ plainB ss en x = true ∧ ∀ j, j < x → (j : Int) ≠ en → pieceAt ss j ≠ pieceAt ss x := by
  obtain ⟨x, tx, h1, h2⟩ := h.at_ i hi
  have hr := bestTo_range ss en tx ss.length
  have hg := bestTo_good ss en tx ss.length (by omega)
  rw [h2] at hr hg
  exact ⟨x, h1, by omega, by simpa using hg.1, fun j hj hje => bestTo_first ss en tx ss.length x h2 j hj hje⟩

end Go.Proofs.Ytcanhkngikeeiaa
