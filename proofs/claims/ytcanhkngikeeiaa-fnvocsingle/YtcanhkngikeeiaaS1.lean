/- Plain facts: how a text is cut into pieces of one byte each. -/
import Derived.Test.YtcanhkngikeeiaaL3
namespace Go.Proofs.Ytcanhkngikeeiaa
open Go.RowKit
set_option linter.unusedVariables false

/-- The pieces b, a, 1, 0. -/
def ss4 : List ByteArray := [⟨#[98]⟩, ⟨#[97]⟩, ⟨#[49]⟩, ⟨#[48]⟩]
def isOne (c : UInt8) : Bool := c == 98 || c == 97 || c == 49 || c == 48

theorem ext_toList (t : ByteArray) (n : Nat) : (t.extract n t.size).toList = t.toList.drop n := by
  rw [ByteArray.toList_eq, ByteArray.toList_eq, ByteArray.data_extract, Array.toList_extract]
  simp only [List.extract]
  exact List.take_of_length_le (by rw [List.length_drop, Array.length_toList]; exact Nat.le_refl _)
theorem ext0_toList (t : ByteArray) (n : Nat) : (t.extract 0 n).toList = t.toList.take n := by
  rw [ByteArray.toList_eq, ByteArray.toList_eq, ByteArray.data_extract, Array.toList_extract]
  simp [List.extract]
theorem size_toList (t : ByteArray) : t.toList.length = t.size := by rw [ByteArray.toList_eq, Array.length_toList]; rfl

theorem fits_one {t : ByteArray} {c d : UInt8} {l : List UInt8} (h : t.toList = c :: l) : fitsB t ⟨#[d]⟩ = (c == d) := by
  have hs : 1 ≤ t.size := by rw [← size_toList, h]; simp
  have h1 : (⟨#[d]⟩ : ByteArray).toList = [d] := by rw [ByteArray.toList_eq]
  unfold fitsB
  rw [show (⟨#[d]⟩ : ByteArray).size = 1 from rfl, ext0_toList, h, h1]
  simp [hs]

theorem best4 {t : ByteArray} {c : UInt8} {l : List UInt8} (h : t.toList = c :: l) :
    bestTo ss4 (-1) t ss4.length = if c == 98 then 0 else if c == 97 then 1 else if c == 49 then 2 else if c == 48 then 3 else -1 := by
  have hl : ss4.length = 4 := rfl
  have p0 : plainB ss4 (-1) 0 = true := by decide
  have p1 : plainB ss4 (-1) 1 = true := by decide
  have p2 : plainB ss4 (-1) 2 = true := by decide
  have p3 : plainB ss4 (-1) 3 = true := by decide
  have f0 : fitsB t (pieceAt ss4 0) = (c == 98) := fits_one h
  have f1 : fitsB t (pieceAt ss4 1) = (c == 97) := fits_one h
  have f2 : fitsB t (pieceAt ss4 2) = (c == 49) := fits_one h
  have f3 : fitsB t (pieceAt ss4 3) = (c == 48) := fits_one h
  have z0 : (pieceAt ss4 0).size = 1 := rfl
  have z1 : (pieceAt ss4 1).size = 1 := rfl
  have z2 : (pieceAt ss4 2).size = 1 := rfl
  have z3 : (pieceAt ss4 3).size = 1 := rfl
  rw [hl]
  simp only [bestTo, p0, p1, p2, p3, f0, f1, f2, f3, z1, z2, z3, Bool.true_and]
  by_cases h0 : c = 98
  · subst h0; simp [z0]
  · by_cases h1 : c = 97
    · subst h1; simp [z1]
    · by_cases h2 : c = 49
      · subst h2; simp [z2]
      · by_cases h3 : c = 48
        · subst h3; simp
        · simp [h0, h1, h2, h3]

theorem best4_one {t : ByteArray} {c : UInt8} {l : List UInt8} (h : t.toList = c :: l) (hc : isOne c = true) :
    0 ≤ bestTo ss4 (-1) t ss4.length ∧ (pieceAt ss4 (bestTo ss4 (-1) t ss4.length).toNat).size = 1 := by
  rw [best4 h]
  unfold isOne at hc
  by_cases h0 : c == 98
  · simp [h0]; rfl
  · by_cases h1 : c == 97
    · simp [h0, h1]; rfl
    · by_cases h2 : c == 49
      · simp [h0, h1, h2]; rfl
      · by_cases h3 : c == 48
        · simp [h0, h1, h2, h3]; rfl
        · simp [h0, h1, h2, h3] at hc
theorem best4_not {t : ByteArray} {c : UInt8} {l : List UInt8} (h : t.toList = c :: l) (hc : isOne c = false) : bestTo ss4 (-1) t ss4.length = -1 := by
  rw [best4 h]
  unfold isOne at hc
  simp only [Bool.or_eq_false_iff] at hc
  simp [hc.1.1.1, hc.1.1.2, hc.1.2, hc.2]

theorem long4_all : ∀ (l : List UInt8) (t : ByteArray) (out : List Int), t.toList = l → (∀ c ∈ l, isOne c = true) → out.length + l.length ≤ 60 → ∃ r, longGo ss4 (-1) (61 - out.length) out t = some r ∧ r.length = out.length + l.length
  | [], t, out, h, _, hl => by
    have hs : t.size = 0 := by rw [← size_toList, h]; rfl
    refine ⟨out, ?_, by simp⟩
    rw [show 61 - out.length = (60 - out.length) + 1 by simp at hl; omega, longGo, if_pos hs]
  | c :: l, t, out, h, hg, hl => by
    have hs : ¬ t.size = 0 := by rw [← size_toList, h]; simp
    obtain ⟨h1, h2⟩ := best4_one h (hg c (by simp))
    simp only [List.length_cons] at hl
    rw [show 61 - out.length = (60 - out.length) + 1 by omega, longGo, if_neg hs, if_neg (by omega), h2]
    have ht : (t.extract 1 t.size).toList = l := by rw [ext_toList, h]; rfl
    obtain ⟨r, hr, hrl⟩ := long4_all l (t.extract 1 t.size) (out ++ [bestTo ss4 (-1) t ss4.length]) ht (fun d hd => hg d (by simp [hd])) (by simp; omega)
    refine ⟨r, ?_, by rw [hrl]; simp; omega⟩
    rw [← hr]
    congr 1
    simp

theorem long4_none : ∀ (l : List UInt8) (t : ByteArray) (out : List Int) (n : Nat), t.toList = l → (60 < out.length + l.length ∨ ∃ c ∈ l, isOne c = false) → out.length ≤ 60 → longGo ss4 (-1) n out t = none
  | _, _, _, 0, _, _, _ => rfl
  | [], t, out, n + 1, h, hg, hl => by
    rcases hg with hg | ⟨c, hc, _⟩
    · simp at hg; omega
    · cases hc
  | c :: l, t, out, n + 1, h, hg, hl => by
    have hs : ¬ t.size = 0 := by rw [← size_toList, h]; simp
    rw [longGo, if_neg hs]
    by_cases h1 : bestTo ss4 (-1) t ss4.length < 0 ∨ 60 ≤ out.length
    · rw [if_pos h1]
    · rw [if_neg h1]
      have hc : isOne c = true := by
        cases hc : isOne c
        · exact absurd (.inl (by rw [best4_not h hc]; omega)) h1
        · rfl
      rw [(best4_one h hc).2]
      have ht : (t.extract 1 t.size).toList = l := by rw [ext_toList, h]; rfl
      refine long4_none l _ _ n ht ?_ (by simp; omega)
      rcases hg with hg | ⟨d, hd, hdd⟩
      · left; simp at hg ⊢; omega
      · rcases List.mem_cons.1 hd with e | e
        · subst e; rw [hc] at hdd; cases hdd
        · exact .inr ⟨d, e, hdd⟩

theorem vocOk4 : vocOkB ss4 (-1) = true := by decide

theorem voc4_all {t : ByteArray} (h : ∀ c ∈ t.toList, isOne c = true) (hl : t.size ≤ 60) : ∃ r, vocLongR ss4 (-1) t = some r ∧ r.length = t.size := by
  obtain ⟨r, hr, hrl⟩ := long4_all t.toList t [] rfl h (by rw [size_toList]; simpa using hl)
  refine ⟨r, ?_, by rw [hrl, size_toList]; simp⟩
  unfold vocLongR
  rw [vocOk4, if_pos rfl]
  exact hr
theorem voc4_none {t : ByteArray} (h : 60 < t.size ∨ ∃ c ∈ t.toList, isOne c = false) : vocLongR ss4 (-1) t = none := by
  unfold vocLongR
  rw [vocOk4, if_pos rfl]
  exact long4_none t.toList t [] 61 rfl (by rw [size_toList]; simpa using h) (by simp)

theorem isOne_of {c : UInt8} (h : c.toNat = 97 ∨ c.toNat = 98 ∨ c.toNat = 48 ∨ c.toNat = 49) : isOne c = true := by
  unfold isOne
  simp only [Bool.or_eq_true, beq_iff_eq, ← UInt8.toNat_inj]
  rcases h with h | h | h | h <;> simp [h]
theorem isOne_not {c : UInt8} (h : c.toNat ≠ 97 ∧ c.toNat ≠ 98 ∧ c.toNat ≠ 48 ∧ c.toNat ≠ 49) : isOne c = false := by
  unfold isOne
  simp only [Bool.or_eq_false_iff, beq_eq_false_iff_ne, ne_eq, ← UInt8.toNat_inj]
  exact ⟨⟨⟨h.2.1, h.1⟩, h.2.2.2⟩, h.2.2.1⟩

end Go.Proofs.Ytcanhkngikeeiaa
