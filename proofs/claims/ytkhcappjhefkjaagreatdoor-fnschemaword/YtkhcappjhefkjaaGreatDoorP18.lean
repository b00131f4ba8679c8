/- impl.isName, by the shelf's strings.Trim. -/
import Derived.Test.YtkhcappjhefkjaaGreatDoorW3
import Derived.Shelf.Strings.SlTrimAscii
namespace Go.Proofs.YtkhcappjhefkjaaGreatDoor
open Go.RowKit Go.Shelf
set_option linter.unusedVariables false


theorem empty_iff (t : ByteArray) : t.toList.isEmpty = decide (t.size = 0) := by
  rw [ByteArray.toList_eq]
  by_cases h : t.size = 0
  · have : t.data = #[] := Array.eq_empty_of_size_eq_zero h
    rw [decide_eq_true h, this]; rfl
  · rw [decide_eq_false h]
    cases e : t.data.toList with
    | nil =>
      exfalso
      apply h
      have : t.data = #[] := by cases t; simp_all
      rw [ByteArray.size, this]; rfl
    | cons x r => rfl

def letters : List UInt8 := [97, 98, 99, 100, 101, 102, 103, 104, 105, 106, 107, 108, 109, 110, 111, 112, 113, 114, 115, 116, 117, 118, 119, 120, 121, 122]
theorem letters_iff (b : UInt8) : letters.contains b = true ↔ 97 ≤ b.toNat ∧ b.toNat ≤ 122 := by
  rw [List.contains_iff_mem]
  constructor
  · intro h
    simp only [letters, List.mem_cons, List.not_mem_nil, or_false] at h
    rcases h with h | h | h | h | h | h | h | h | h | h | h | h | h | h | h | h | h | h | h | h | h | h | h | h | h | h <;> subst h <;> decide
  · rintro ⟨h1, h2⟩
    have hb : b = UInt8.ofNat b.toNat := by simp
    rw [hb]
    generalize b.toNat = n at h1 h2
    obtain ⟨m, rfl⟩ : ∃ m, n = 97 + m := ⟨n - 97, by omega⟩
    have hm : m < 26 := by omega
    have : ∀ m : Fin 26, UInt8.ofNat (97 + m.val) ∈ letters := by decide
    exact this ⟨m, hm⟩
theorem dropWhile_nil {p : UInt8 → Bool} : ∀ {l : List UInt8}, l.dropWhile p = [] ↔ ∀ b ∈ l, p b = true
  | [] => by simp
  | x :: r => by
    rw [List.dropWhile_cons]
    by_cases h : p x = true
    · rw [if_pos h, dropWhile_nil]; simp [h]
    · rw [if_neg h]; simp [h]
theorem trim_nil {l : List UInt8} : Lib.trimS l letters = [] ↔ ∀ b ∈ l, letters.contains b = true := by
  unfold Lib.trimS Lib.trimLeftS Lib.trimRightS
  rw [dropWhile_nil]
  constructor
  · intro h
    by_cases hn : (l.reverse.dropWhile (letters.contains ·)) = []
    · intro b hb
      exact dropWhile_nil.1 hn b (by simpa using hb)
    · exfalso
      have h1 := List.head_dropWhile_not (fun x => letters.contains x) hn
      have h2 := h _ (List.mem_reverse.2 (List.head_mem hn))
      exact Bool.noConfusion (h2.symm.trans h1)
  · intro h b hb
    have h1 := List.mem_reverse.1 hb
    exact h b (by simpa using (List.dropWhile_sublist _).subset h1)

set_option maxRecDepth 100000 in
set_option maxHeartbeats 1000000 in
theorem isName_any (s : ByteArray) (w : World) (hm : s.size ≤ 1048576) : Calls Tryz.prog 155 #[.string s] w (BoolPost (NameP s) w) := by
  by_cases h1 : 1 ≤ s.size
  · have h1' : (1 : Int) ≤ (s.size : Int) := by omega
    by_cases h2 : s.size ≤ 8
    · have h2' : (s.size : Int) ≤ 8 := by omega
      have hcon := Any.strings_Trim_laid Tryz.lays160 (by kernel_rfl) s ⟨#[97, 98, 99, 100, 101, 102, 103, 104, 105, 106, 107, 108, 109, 110, 111, 112, 113, 114, 115, 116, 117, 118, 119, 120, 121, 122]⟩ w (by omega) (by decide) (ascii_of_all (by decide))
      change Calls Tryz.prog 159 _ _ (fun e w' => e = .returned (.string ⟨(Lib.trimS s.data.toList letters).toArray⟩) ∧ Below w.heap.size w w') at hcon
      have HN : Hid ((⟨(Lib.trimS s.data.toList letters).toArray⟩ : ByteArray).toList.isEmpty = true ↔ NameP s) := by
        show _ ↔ _
        rw [empty_iff, decide_eq_true_iff]
        have e1 : (⟨(Lib.trimS s.data.toList letters).toArray⟩ : ByteArray).size = (Lib.trimS s.data.toList letters).length := rfl
        rw [e1, List.length_eq_zero_iff, trim_nil]
        unfold NameP
        constructor
        · intro h
          refine ⟨h1, h2, fun j hj => ?_⟩
          exact (letters_iff _).1 (h _ (Array.mem_toList_iff.2 (Array.getElem_mem (xs := s.data) hj)))
        · rintro ⟨_, _, h⟩ b hb
          obtain ⟨u, hu, rfl⟩ := List.getElem_of_mem hb
          exact (letters_iff _).2 (h u (by simpa using hu))
      have HC := Lib.hid hcon
      clear hcon
      generalize (⟨(Lib.trimS s.data.toList letters).toArray⟩ : ByteArray) = r at HC HN
      go_enter Tryz.func155, Tryz.ntmps155
      go_wp2_with fail
      refine HC.out.mono ?_
      rintro e w2 ⟨rfl, hb⟩
      go_wp2
      go_ret
      refine ⟨_, rfl, HN.out, hb⟩
    · have h2' : ¬ (s.size : Int) ≤ 8 := by omega
      have H := Lib.hid h2
      go_enter Tryz.func155, Tryz.ntmps155
      go_wp2
      go_ret
      exact ⟨false, rfl, iffF (fun h => H.out h.2.1), Below.refl _ _⟩
  · have h1' : ¬ (1 : Int) ≤ (s.size : Int) := by omega
    have H := Lib.hid h1
    go_enter Tryz.func155, Tryz.ntmps155
    go_wp2
    go_ret
    exact ⟨false, rfl, iffF (fun h => H.out h.1), Below.refl _ _⟩

end Go.Proofs.YtkhcappjhefkjaaGreatDoor

