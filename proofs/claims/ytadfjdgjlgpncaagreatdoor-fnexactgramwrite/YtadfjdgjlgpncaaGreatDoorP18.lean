/- impl.isName, by the shelf's strings.Trim. -/
import Derived.Test.YtadfjdgjlgpncaaGreatDoorP13
import Derived.Shelf.Strings.SlTrimAscii
namespace Go.Proofs.YtadfjdgjlgpncaaGreatDoor
open Go.RowKit Go.Shelf
set_option linter.unusedVariables false

def trimRen : Go.Shelf.Ren := ⟨fun | 160 => 72 | 232 => 103 | 231 => 102 | 227 => 104 | 234 => 106 | 233 => 105 | 236 => 108 | 235 => 107 | 228 => 123 | 271 => 126 | 151 => 125 | 197 => 124 | 120 => 147 | 152 => 146 | 260 => 145 | 137 => 120 | 119 => 155 | 224 => 156 | 225 => 157 | 217 => 142 | 266 => 152 | n => n, fun | 9 => 9 | 4 => 4 | 3 => 3 | 5 => 5 | 117 => 151 | 116 => 150 | 0 => 0 | 124 => 154 | 21 => 21 | 105 => 163 | 46 => 179 | 119 => 178 | 139 => 182 | 138 => 181 | n => n, fun | 3 => 0 | 4 => 1 | n => n⟩
theorem trimLays : Go.Proofs.Lays.n160 Tryz.prog trimRen := {
  mixed := by kernel_rfl
  f119 := Tryz.func155.trans (congrArg some (by kernel_rfl))
  f120 := Tryz.func147.trans (congrArg some (by kernel_rfl))
  f137 := Tryz.func120.trans (congrArg some (by kernel_rfl))
  f151 := Tryz.func125.trans (congrArg some (by kernel_rfl))
  f152 := Tryz.func146.trans (congrArg some (by kernel_rfl))
  f160 := Tryz.func72.trans (congrArg some (by kernel_rfl))
  f197 := Tryz.func124.trans (congrArg some (by kernel_rfl))
  f217 := Tryz.func142.trans (congrArg some (by kernel_rfl))
  f224 := Tryz.func156.trans (congrArg some (by kernel_rfl))
  f225 := Tryz.func157.trans (congrArg some (by kernel_rfl))
  f227 := Tryz.func104.trans (congrArg some (by kernel_rfl))
  f228 := Tryz.func123.trans (congrArg some (by kernel_rfl))
  f231 := Tryz.func102.trans (congrArg some (by kernel_rfl))
  f232 := Tryz.func103.trans (congrArg some (by kernel_rfl))
  f233 := Tryz.func105.trans (congrArg some (by kernel_rfl))
  f234 := Tryz.func106.trans (congrArg some (by kernel_rfl))
  f235 := Tryz.func107.trans (congrArg some (by kernel_rfl))
  f236 := Tryz.func108.trans (congrArg some (by kernel_rfl))
  f260 := Tryz.func145.trans (congrArg some (by kernel_rfl))
  f266 := Tryz.func152.trans (congrArg some (by kernel_rfl))
  f271 := Tryz.func126.trans (congrArg some (by kernel_rfl))
  t0 := Tryz.underlying0
  a0 := Tryz.isAgg0
  z0 := Tryz.sizeOf0
  v0 := Tryz.zeroValue0
  t3 := Tryz.underlying3
  a3 := Tryz.isAgg3
  z3 := Tryz.sizeOf3
  v3 := Tryz.zeroValue3
  t4 := Tryz.underlying4
  a4 := Tryz.isAgg4
  z4 := Tryz.sizeOf4
  v4 := Tryz.zeroValue4
  t5 := Tryz.underlying5
  a5 := Tryz.isAgg5
  z5 := Tryz.sizeOf5
  v5 := Tryz.zeroValue5
  t9 := Tryz.underlying9
  a9 := Tryz.isAgg9
  z9 := Tryz.sizeOf9
  v9 := Tryz.zeroValue9
  t21 := Tryz.underlying21
  a21 := Tryz.isAgg21
  z21 := Tryz.sizeOf21
  v21 := Tryz.zeroValue21
  t46 := Tryz.underlying179
  a46 := Tryz.isAgg179
  z46 := Tryz.sizeOf179
  v46 := Tryz.zeroValue179
  t105 := Tryz.underlying163
  a105 := Tryz.isAgg163
  z105 := Tryz.sizeOf163
  v105 := Tryz.zeroValue163
  t116 := Tryz.underlying150
  a116 := Tryz.isAgg150
  z116 := Tryz.sizeOf150
  t117 := Tryz.underlying151
  a117 := Tryz.isAgg151
  z117 := Tryz.sizeOf151
  v117 := Tryz.zeroValue151
  t119 := Tryz.underlying178
  a119 := Tryz.isAgg178
  z119 := Tryz.sizeOf178
  t124 := Tryz.underlying154
  a124 := Tryz.isAgg154
  z124 := Tryz.sizeOf154
  v124 := Tryz.zeroValue154
  t138 := Tryz.underlying181
  a138 := Tryz.isAgg181
  z138 := Tryz.sizeOf181
  v138 := Tryz.zeroValue181
  t139 := Tryz.underlying182
  a139 := Tryz.isAgg182
  z139 := Tryz.sizeOf182
  v139 := Tryz.zeroValue182
  g3 := by kernel_rfl
  g4 := by kernel_rfl }

def letters : List UInt8 := [97, 98, 99, 100, 101, 102, 103, 104, 105, 106, 107, 108, 109, 110, 111, 112, 113, 114, 115, 116, 117, 118, 119, 120, 121, 122]
theorem letters_iff (b : UInt8) : letters.contains b = true ↔ 97 ≤ b.toNat ∧ b.toNat ≤ 122 := by
  rw [List.contains_iff_mem]
  constructor
  · intro h
    simp only [letters, List.mem_cons, List.not_mem_nil, or_false] at h
    rcases h with h | h | h | h | h | h | h | h | h | h | h | h | h | h | h | h | h | h | h | h | h | h | h | h | h | h <;> subst h <;> decide
  · rintro ⟨h1, h2⟩
    have hb : b = UInt8.ofNat b.toNat := by simp
    rw [hb]
    generalize b.toNat = n at h1 h2
    obtain ⟨m, rfl⟩ : ∃ m, n = 97 + m := ⟨n - 97, by omega⟩
    have hm : m < 26 := by omega
    have : ∀ m : Fin 26, UInt8.ofNat (97 + m.val) ∈ letters := by decide
    exact this ⟨m, hm⟩
theorem dropWhile_nil {p : UInt8 → Bool} : ∀ {l : List UInt8}, l.dropWhile p = [] ↔ ∀ b ∈ l, p b = true
  | [] => by simp
  | x :: r => by
    rw [List.dropWhile_cons]
    by_cases h : p x = true
    · rw [if_pos h, dropWhile_nil]; simp [h]
    · rw [if_neg h]; simp [h]
theorem trim_nil {l : List UInt8} : Lib.trimS l letters = [] ↔ ∀ b ∈ l, letters.contains b = true := by
  unfold Lib.trimS Lib.trimLeftS Lib.trimRightS
  rw [dropWhile_nil]
  constructor
  · intro h
    by_cases hn : (l.reverse.dropWhile (letters.contains ·)) = []
    · intro b hb
      exact dropWhile_nil.1 hn b (by simpa using hb)
    · exfalso
      have h1 := List.head_dropWhile_not (fun x => letters.contains x) hn
      have h2 := h _ (List.mem_reverse.2 (List.head_mem hn))
      exact Bool.noConfusion (h2.symm.trans h1)
  · intro h b hb
    have h1 := List.mem_reverse.1 hb
    exact h b (by simpa using (List.dropWhile_sublist _).subset h1)

set_option maxRecDepth 100000 in
set_option maxHeartbeats 1000000 in
theorem isName_any (s : ByteArray) (w : World) (hm : s.size ≤ 1048576) : Calls Tryz.prog 39 #[.string s] w (BoolPost (NameP s) w) := by
  by_cases h1 : 1 ≤ s.size
  · have h1' : (1 : Int) ≤ (s.size : Int) := by omega
    by_cases h2 : s.size ≤ 8
    · have h2' : (s.size : Int) ≤ 8 := by omega
      have hcon := Any.strings_Trim_laid trimLays (by kernel_rfl) s ⟨#[97, 98, 99, 100, 101, 102, 103, 104, 105, 106, 107, 108, 109, 110, 111, 112, 113, 114, 115, 116, 117, 118, 119, 120, 121, 122]⟩ w (by omega) (by decide) (ascii_of_all (by decide))
      change Calls Tryz.prog 72 _ _ (fun e w' => e = .returned (.string ⟨(Lib.trimS s.data.toList letters).toArray⟩) ∧ Below w.heap.size w w') at hcon
      have HN : Hid ((⟨(Lib.trimS s.data.toList letters).toArray⟩ : ByteArray).toList.isEmpty = true ↔ NameP s) := by
        show _ ↔ _
        rw [empty_iff, decide_eq_true_iff]
        have e1 : (⟨(Lib.trimS s.data.toList letters).toArray⟩ : ByteArray).size = (Lib.trimS s.data.toList letters).length := rfl
        rw [e1, List.length_eq_zero_iff, trim_nil]
        unfold NameP
        constructor
        · intro h
          refine ⟨h1, h2, fun j hj => ?_⟩
          exact (letters_iff _).1 (h _ (Array.mem_toList_iff.2 (Array.getElem_mem (xs := s.data) hj)))
        · rintro ⟨_, _, h⟩ b hb
          obtain ⟨u, hu, rfl⟩ := List.getElem_of_mem hb
          exact (letters_iff _).2 (h u (by simpa using hu))
      have HC := Lib.hid hcon
      clear hcon
      generalize (⟨(Lib.trimS s.data.toList letters).toArray⟩ : ByteArray) = r at HC HN
      go_enter Tryz.func39, Tryz.ntmps39
      go_wp2_with fail
      refine HC.out.mono ?_
      rintro e w2 ⟨rfl, hb⟩
      go_wp2
      go_ret
      refine ⟨_, rfl, HN.out, hb⟩
    · have h2' : ¬ (s.size : Int) ≤ 8 := by omega
      have H := Lib.hid h2
      go_enter Tryz.func39, Tryz.ntmps39
      go_wp2
      go_ret
      exact ⟨false, rfl, iffF (fun h => H.out h.2.1), Below.refl _ _⟩
  · have h1' : ¬ (1 : Int) ≤ (s.size : Int) := by omega
    have H := Lib.hid h1
    go_enter Tryz.func39, Tryz.ntmps39
    go_wp2
    go_ret
    exact ⟨false, rfl, iffF (fun h => H.out h.1), Below.refl _ _⟩

end Go.Proofs.YtadfjdgjlgpncaaGreatDoor
