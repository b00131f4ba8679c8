/- What the text of tokens is: laid together, with an end, with a place that is not there. -/
import Derived.Test.YtcanhkngikeeiaaT3
namespace Go.Proofs.Ytcanhkngikeeiaa
set_option linter.unusedVariables false

theorem textGo_out (ss : List ByteArray) (en : Int) : ∀ (xs : List Int) (o t : ByteArray), textGo ss en xs (o ++ t) = (textGo ss en xs t).map (o ++ ·)
  | [], o, t => rfl
  | x :: xs, o, t => by
    unfold textGo
    split
    · split
      · exact textGo_out ss en xs o t
      · rw [ByteArray.append_assoc]; exact textGo_out ss en xs o _
    · rfl

theorem textGo_app (ss : List ByteArray) (en : Int) (ys : List Int) : ∀ (xs : List Int) (o : ByteArray), textGo ss en (xs ++ ys) o = (textGo ss en xs o).bind (textGo ss en ys)
  | [], o => rfl
  | x :: xs, o => by
    show textGo ss en (x :: (xs ++ ys)) o = _
    unfold textGo
    split
    · exact textGo_app ss en ys xs _
    · rfl

/-- Tokens cut in two: each half has its text, and the two together are the text. -/
theorem vocTextR_cut {ss : List ByteArray} {en : Int} {ids : List Int} {s : ByteArray} (h : vocTextR ss en ids = some s) (k : Nat) (hk : k ≤ ids.length) :
    ∃ a b, vocTextR ss en (ids.take k) = some a ∧ vocTextR ss en (ids.drop k) = some b ∧ a ++ b = s := by
  unfold vocTextR at h ⊢
  split at h
  · rename_i hc
    have h1 := textGo_app ss en (ids.drop k) (ids.take k) ⟨#[]⟩
    rw [List.take_append_drop, h] at h1
    rcases ha : textGo ss en (ids.take k) ⟨#[]⟩ with _ | a
    · rw [ha] at h1; simp at h1
    · rw [ha] at h1
      simp only [Option.bind_some] at h1
      have h2 := textGo_out ss en (ids.drop k) a ⟨#[]⟩
      rw [show a ++ (⟨#[]⟩ : ByteArray) = a from ByteArray.append_empty] at h2
      rw [← h1] at h2
      rcases hb : textGo ss en (ids.drop k) ⟨#[]⟩ with _ | b
      · rw [hb] at h2; simp at h2
      · rw [hb] at h2
        simp only [Option.map_some, Option.some.injEq] at h2
        refine ⟨a, b, ?_, ?_, h2.symm⟩
        · rw [if_pos ⟨hc.1, by simp; omega⟩]
        · rw [if_pos ⟨hc.1, by simp; omega⟩]
  · cases h

theorem pieceAt_size {ss : List ByteArray} (h : ∀ s ∈ ss, s.size ≤ 10) (k : Nat) : (pieceAt ss k).size ≤ 10 := by
  unfold pieceAt
  rw [List.getD_eq_getElem?_getD]
  rcases hk : ss[k]? with _ | s
  · exact Nat.zero_le _
  · exact h s (List.mem_of_getElem? hk)

theorem textGo_size {ss : List ByteArray} {en : Int} (h : ∀ s ∈ ss, s.size ≤ 10) : ∀ (xs : List Int) (o t : ByteArray), textGo ss en xs o = some t → t.size ≤ o.size + 10 * xs.length
  | [], o, t, e => by simp [textGo] at e; subst e; simp
  | x :: xs, o, t, e => by
    unfold textGo at e
    split at e
    · have := textGo_size h xs _ t e
      have hp := pieceAt_size h x.toNat
      split at this
      · simp; omega
      · rw [ByteArray.size_append] at this; simp; omega
    · cases e

theorem vocTextR_size {ss : List ByteArray} {en : Int} {ids : List Int} {s : ByteArray} (h : ∀ s ∈ ss, s.size ≤ 10) (hr : vocTextR ss en ids = some s) : s.size ≤ 600 := by
  unfold vocTextR at hr
  split at hr
  · rename_i hc
    have := textGo_size h _ _ _ hr
    have h0 : (⟨#[]⟩ : ByteArray).size = 0 := rfl
    omega
  · cases hr

theorem vocOk_end {ss : List ByteArray} {en : Int} (h : vocOkB ss en = true) : en < ss.length := by
  simp [vocOkB] at h
  omega

theorem textGo_end {ss : List ByteArray} {en : Int} (h0 : 0 ≤ en) (h1 : en < ss.length) (xs : List Int) (o : ByteArray) : textGo ss en (en :: xs) o = textGo ss en xs o := by
  conv => lhs; unfold textGo
  rw [if_pos ⟨h0, h1⟩, if_pos rfl]

/-- An end more, behind or ahead, changes no text. -/
theorem vocTextR_end {ss : List ByteArray} {en : Int} {ids : List Int} {s : ByteArray} (h : vocTextR ss en ids = some s) (h0 : 0 ≤ en) (hl : ids.length < 60) :
    vocTextR ss en (ids ++ [en]) = some s ∧ vocTextR ss en (en :: ids) = some s := by
  unfold vocTextR at h ⊢
  split at h
  · rename_i hc
    have he := vocOk_end hc.1
    rw [if_pos ⟨hc.1, by simp; omega⟩, if_pos ⟨hc.1, by simp; omega⟩, textGo_app, h, textGo_end h0 he]
    exact ⟨textGo_end h0 he [] s, h⟩
  · cases h

/-- A place that is not there. -/
theorem vocTextR_bad {ss : List ByteArray} {en : Int} {ids : List Int} {x : Int} (h : x < 0 ∨ (ss.length : Int) ≤ x) : vocTextR ss en (ids ++ [x]) = none := by
  unfold vocTextR
  split
  · rw [textGo_app]
    rcases textGo ss en ids ⟨#[]⟩ with _ | o
    · rfl
    · simp only [Option.bind_some]
      unfold textGo
      rw [if_neg (by omega)]
  · rfl

end Go.Proofs.Ytcanhkngikeeiaa
