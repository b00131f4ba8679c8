/- impl.isName, by the shelf's strings.Trim. -/
import Derived.Test.YtjfohdalpjoaeaaDoorP13
import Derived.Shelf.Strings.SlTrimAscii
namespace Go.Proofs.YtjfohdalpjoaeaaDoor
open Go.RowKit Go.Shelf
set_option linter.unusedVariables false

def trimRen : Go.Shelf.Ren := ⟨fun | 160 => 35 | 232 => 48 | 231 => 47 | 227 => 49 | 234 => 51 | 233 => 50 | 236 => 53 | 235 => 52 | 228 => 60 | 271 => 63 | 151 => 62 | 197 => 61 | 120 => 73 | 152 => 72 | 260 => 71 | 137 => 74 | 119 => 75 | 224 => 76 | 225 => 77 | 217 => 78 | 266 => 79 | n => n, fun | 9 => 9 | 4 => 4 | 3 => 3 | 5 => 5 | 117 => 91 | 116 => 90 | 0 => 0 | 124 => 94 | 21 => 21 | 105 => 110 | 46 => 120 | 119 => 119 | 139 => 123 | 138 => 122 | n => n, fun | 3 => 0 | 4 => 1 | n => n⟩
theorem trimLays : Go.Proofs.Lays.n160 Tryd.prog trimRen := {
  mixed := by kernel_rfl
  f119 := Tryd.func75.trans (congrArg some (by kernel_rfl))
  f120 := Tryd.func73.trans (congrArg some (by kernel_rfl))
  f137 := Tryd.func74.trans (congrArg some (by kernel_rfl))
  f151 := Tryd.func62.trans (congrArg some (by kernel_rfl))
  f152 := Tryd.func72.trans (congrArg some (by kernel_rfl))
  f160 := Tryd.func35.trans (congrArg some (by kernel_rfl))
  f197 := Tryd.func61.trans (congrArg some (by kernel_rfl))
  f217 := Tryd.func78.trans (congrArg some (by kernel_rfl))
  f224 := Tryd.func76.trans (congrArg some (by kernel_rfl))
  f225 := Tryd.func77.trans (congrArg some (by kernel_rfl))
  f227 := Tryd.func49.trans (congrArg some (by kernel_rfl))
  f228 := Tryd.func60.trans (congrArg some (by kernel_rfl))
  f231 := Tryd.func47.trans (congrArg some (by kernel_rfl))
  f232 := Tryd.func48.trans (congrArg some (by kernel_rfl))
  f233 := Tryd.func50.trans (congrArg some (by kernel_rfl))
  f234 := Tryd.func51.trans (congrArg some (by kernel_rfl))
  f235 := Tryd.func52.trans (congrArg some (by kernel_rfl))
  f236 := Tryd.func53.trans (congrArg some (by kernel_rfl))
  f260 := Tryd.func71.trans (congrArg some (by kernel_rfl))
  f266 := Tryd.func79.trans (congrArg some (by kernel_rfl))
  f271 := Tryd.func63.trans (congrArg some (by kernel_rfl))
  t0 := Tryd.underlying0
  a0 := Tryd.isAgg0
  z0 := Tryd.sizeOf0
  v0 := Tryd.zeroValue0
  t3 := Tryd.underlying3
  a3 := Tryd.isAgg3
  z3 := Tryd.sizeOf3
  v3 := Tryd.zeroValue3
  t4 := Tryd.underlying4
  a4 := Tryd.isAgg4
  z4 := Tryd.sizeOf4
  v4 := Tryd.zeroValue4
  t5 := Tryd.underlying5
  a5 := Tryd.isAgg5
  z5 := Tryd.sizeOf5
  v5 := Tryd.zeroValue5
  t9 := Tryd.underlying9
  a9 := Tryd.isAgg9
  z9 := Tryd.sizeOf9
  v9 := Tryd.zeroValue9
  t21 := Tryd.underlying21
  a21 := Tryd.isAgg21
  z21 := Tryd.sizeOf21
  v21 := Tryd.zeroValue21
  t46 := Tryd.underlying120
  a46 := Tryd.isAgg120
  z46 := Tryd.sizeOf120
  v46 := Tryd.zeroValue120
  t105 := Tryd.underlying110
  a105 := Tryd.isAgg110
  z105 := Tryd.sizeOf110
  v105 := Tryd.zeroValue110
  t116 := Tryd.underlying90
  a116 := Tryd.isAgg90
  z116 := Tryd.sizeOf90
  t117 := Tryd.underlying91
  a117 := Tryd.isAgg91
  z117 := Tryd.sizeOf91
  v117 := Tryd.zeroValue91
  t119 := Tryd.underlying119
  a119 := Tryd.isAgg119
  z119 := Tryd.sizeOf119
  t124 := Tryd.underlying94
  a124 := Tryd.isAgg94
  z124 := Tryd.sizeOf94
  v124 := Tryd.zeroValue94
  t138 := Tryd.underlying122
  a138 := Tryd.isAgg122
  z138 := Tryd.sizeOf122
  v138 := Tryd.zeroValue122
  t139 := Tryd.underlying123
  a139 := Tryd.isAgg123
  z139 := Tryd.sizeOf123
  v139 := Tryd.zeroValue123
  g3 := by kernel_rfl
  g4 := by kernel_rfl }

def letters : List UInt8 := [97, 98, 99, 100, 101, 102, 103, 104, 105, 106, 107, 108, 109, 110, 111, 112, 113, 114, 115, 116, 117, 118, 119, 120, 121, 122]
theorem letters_iff (b : UInt8) : letters.contains b = true ↔ 97 ≤ b.toNat ∧ b.toNat ≤ 122 := by
  rw [List.contains_iff_mem]
  constructor
  · intro h
    simp only [letters, List.mem_cons, List.not_mem_nil, or_false] at h
    rcases h with h | h | h | h | h | h | h | h | h | h | h | h | h | h | h | h | h | h | h | h | h | h | h | h | h | h <;> subst h <;> decide
  · rintro ⟨h1, h2⟩
    have hb : b = UInt8.ofNat b.toNat := by simp
    rw [hb]
    generalize b.toNat = n at h1 h2
    obtain ⟨m, rfl⟩ : ∃ m, n = 97 + m := ⟨n - 97, by omega⟩
    have hm : m < 26 := by omega
    have : ∀ m : Fin 26, UInt8.ofNat (97 + m.val) ∈ letters := by decide
    exact this ⟨m, hm⟩
theorem dropWhile_nil {p : UInt8 → Bool} : ∀ {l : List UInt8}, l.dropWhile p = [] ↔ ∀ b ∈ l, p b = true
  | [] => by simp
  | x :: r => by
    rw [List.dropWhile_cons]
    by_cases h : p x = true
    · rw [if_pos h, dropWhile_nil]; simp [h]
    · rw [if_neg h]; simp [h]
theorem trim_nil {l : List UInt8} : Lib.trimS l letters = [] ↔ ∀ b ∈ l, letters.contains b = true := by
  unfold Lib.trimS Lib.trimLeftS Lib.trimRightS
  rw [dropWhile_nil]
  constructor
  · intro h
    by_cases hn : (l.reverse.dropWhile (letters.contains ·)) = []
    · intro b hb
      exact dropWhile_nil.1 hn b (by simpa using hb)
    · exfalso
      have h1 := List.head_dropWhile_not (fun x => letters.contains x) hn
      have h2 := h _ (List.mem_reverse.2 (List.head_mem hn))
      exact Bool.noConfusion (h2.symm.trans h1)
  · intro h b hb
    have h1 := List.mem_reverse.1 hb
    exact h b (by simpa using (List.dropWhile_sublist _).subset h1)

set_option maxRecDepth 100000 in
set_option maxHeartbeats 1000000 in
theorem isName_any (s : ByteArray) (w : World) (hm : s.size ≤ 1048576) : Calls Tryd.prog 21 #[.string s] w (BoolPost (NameP s) w) := by
  by_cases h1 : 1 ≤ s.size
  · have h1' : (1 : Int) ≤ (s.size : Int) := by omega
    by_cases h2 : s.size ≤ 8
    · have h2' : (s.size : Int) ≤ 8 := by omega
      have hcon := Any.strings_Trim_laid trimLays (by kernel_rfl) s ⟨#[97, 98, 99, 100, 101, 102, 103, 104, 105, 106, 107, 108, 109, 110, 111, 112, 113, 114, 115, 116, 117, 118, 119, 120, 121, 122]⟩ w (by omega) (by decide) (ascii_of_all (by decide))
      change Calls Tryd.prog 35 _ _ (fun e w' => e = .returned (.string ⟨(Lib.trimS s.data.toList letters).toArray⟩) ∧ Below w.heap.size w w') at hcon
      have HN : Hid ((⟨(Lib.trimS s.data.toList letters).toArray⟩ : ByteArray).toList.isEmpty = true ↔ NameP s) := by
        show _ ↔ _
        rw [empty_iff, decide_eq_true_iff]
        have e1 : (⟨(Lib.trimS s.data.toList letters).toArray⟩ : ByteArray).size = (Lib.trimS s.data.toList letters).length := rfl
        rw [e1, List.length_eq_zero_iff, trim_nil]
        unfold NameP
        constructor
        · intro h
          refine ⟨h1, h2, fun j hj => ?_⟩
          exact (letters_iff _).1 (h _ (Array.mem_toList_iff.2 (Array.getElem_mem (xs := s.data) hj)))
        · rintro ⟨_, _, h⟩ b hb
          obtain ⟨u, hu, rfl⟩ := List.getElem_of_mem hb
          exact (letters_iff _).2 (h u (by simpa using hu))
      have HC := Lib.hid hcon
      clear hcon
      generalize (⟨(Lib.trimS s.data.toList letters).toArray⟩ : ByteArray) = r at HC HN
      go_enter Tryd.func21, Tryd.ntmps21
      go_wp2_with fail
      refine HC.out.mono ?_
      rintro e w2 ⟨rfl, hb⟩
      go_wp2
      go_ret
      refine ⟨_, rfl, HN.out, hb⟩
    · have h2' : ¬ (s.size : Int) ≤ 8 := by omega
      have H := Lib.hid h2
      go_enter Tryd.func21, Tryd.ntmps21
      go_wp2
      go_ret
      exact ⟨false, rfl, iffF (fun h => H.out h.2.1), Below.refl _ _⟩
  · have h1' : ¬ (1 : Int) ≤ (s.size : Int) := by omega
    have H := Lib.hid h1
    go_enter Tryd.func21, Tryd.ntmps21
    go_wp2
    go_ret
    exact ⟨false, rfl, iffF (fun h => H.out h.1), Below.refl _ _⟩

end Go.Proofs.YtjfohdalpjoaeaaDoor
