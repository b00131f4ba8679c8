/- impl.isNumber, isQuotable, areNames, isWellFormed. -/
import Derived.Test.YtkhcappjhefkjaaGreatDoorJ5
import Derived.Test.YtkhcappjhefkjaaGreatDoorW9
import Derived.Test.YtkhcappjhefkjaaGreatDoorP18
namespace Go.Proofs.YtkhcappjhefkjaaGreatDoor
open Go.RowKit Go.Shelf
set_option linter.unusedVariables false

theorem trimS_nil {l cs : List UInt8} : Lib.trimS l cs = [] ↔ ∀ b ∈ l, cs.contains b = true := by
  unfold Lib.trimS Lib.trimLeftS Lib.trimRightS
  rw [dropWhile_nil]
  constructor
  · intro h
    by_cases hn : (l.reverse.dropWhile (cs.contains ·)) = []
    · intro b hb
      exact dropWhile_nil.1 hn b (by simpa using hb)
    · exfalso
      have h1 := List.head_dropWhile_not (fun x => cs.contains x) hn
      have h2 := h _ (List.mem_reverse.2 (List.head_mem hn))
      exact Bool.noConfusion (h2.symm.trans h1)
  · intro h b hb
    have h1 := List.mem_reverse.1 hb
    exact h b (by simpa using (List.dropWhile_sublist _).subset h1)
def digits : List UInt8 := [48, 49, 50, 51, 52, 53, 54, 55, 56, 57]
theorem digits_iff (b : UInt8) : digits.contains b = true ↔ digitB b := by
  unfold digitB
  rw [List.contains_iff_mem]
  constructor
  · intro h
    simp only [digits, List.mem_cons, List.not_mem_nil, or_false] at h
    rcases h with h | h | h | h | h | h | h | h | h | h <;> subst h <;> decide
  · rintro ⟨h1, h2⟩
    have hb : b = UInt8.ofNat b.toNat := by simp
    rw [hb]
    generalize b.toNat = n at h1 h2
    obtain ⟨m, rfl⟩ : ∃ m, n = 48 + m := ⟨n - 48, by omega⟩
    have hm : m < 10 := by omega
    have : ∀ m : Fin 10, UInt8.ofNat (48 + m.val) ∈ digits := by decide
    exact this ⟨m, hm⟩
theorem trim_figs (l : List UInt8) : Lib.trimPrefix l [45] = figs l := by
  unfold Lib.trimPrefix figs Lib.hasPrefix
  cases l with
  | nil => simp
  | cons x r => simp [List.isPrefixOf]; by_cases h : x = 45 <;> simp [h, eq_comm]

set_option maxRecDepth 100000 in
set_option maxHeartbeats 1000000 in
theorem isNumber_any (t : ByteArray) (w : World) (hm : t.size ≤ 1048576) : Calls Tryz.prog 145 #[.string t] w (BoolPost (NumP t) w) := by
  have HC : Hid (Calls Tryz.prog 158 #[.string t, .string ⟨#[45]⟩] w fun e w' => e = .returned (.string ⟨(figs (bl t)).toArray⟩) ∧ w' = w) := by
    have := Tryz.strings_TrimPrefix t ⟨#[45]⟩ w
    rw [show (⟨#[45]⟩ : ByteArray).data.toList = [45] from rfl, trim_figs] at this
    exact this
  have hb : bl (⟨(figs (bl t)).toArray⟩ : ByteArray) = figs (bl t) := bl_mk _
  have hfl : (figs (bl t)).length ≤ (bl t).length := by unfold figs; split <;> simp
  have hds : (⟨(figs (bl t)).toArray⟩ : ByteArray).size ≤ 1048576 := by rw [bl_size, hb]; rw [bl_size] at hm; omega
  obtain ⟨Q, hQ⟩ : ∃ Q : Prop, Q ↔ NumP t := ⟨_, Iff.rfl⟩
  rw [show NumP t = Q from (propext hQ).symm]
  generalize (⟨(figs (bl t)).toArray⟩ : ByteArray) = d at *
  have HQ : Hid (Q ↔ 1 ≤ d.size ∧ d.size ≤ 7 ∧ (∀ b ∈ bl d, digitB b) ∧ ((bl d).head? ≠ some 48 ∨ bl t = [48])) := by
    show _ ↔ _
    rw [hQ, bl_size, hb]; exact Iff.rfl
  clear hQ hb hfl
  go_enter Tryz.func145, Tryz.ntmps145
  go_wp2_with fail
  refine HC.out.mono ?_
  rintro e w' ⟨rfl, rfl⟩
  by_cases z1 : d.size < 1
  · have z1' : (d.size : Int) < 1 := by omega
    have HN : Hid (¬ Q) := fun h => by have := (HQ.out.1 h).1; omega
    clear z1
    go_wp2
    go_ret
    exact ⟨false, rfl, iffF HN.out, Below.refl _ _⟩
  by_cases z2 : 7 < d.size
  · have z1' : ¬ (d.size : Int) < 1 := by omega
    have z2' : (7 : Int) < (d.size : Int) := by omega
    have HN : Hid (¬ Q) := fun h => by have := (HQ.out.1 h).2.1; omega
    clear z1 z2
    go_wp2
    go_ret
    exact ⟨false, rfl, iffF HN.out, Below.refl _ _⟩
  have z1' : ¬ (d.size : Int) < 1 := by omega
  have z2' : ¬ (7 : Int) < (d.size : Int) := by omega
  have h0 : 0 < d.size := by omega
  have hcon := Any.strings_Trim_laid Tryz.lays160 (by kernel_rfl) d ⟨#[48, 49, 50, 51, 52, 53, 54, 55, 56, 57]⟩ w' (by omega) (by decide) (ascii_of_all (by decide))
  change Calls Tryz.prog 159 _ _ (fun e w2 => e = .returned (.string ⟨(Lib.trimS (bl d) digits).toArray⟩) ∧ Below w'.heap.size w' w2) at hcon
  have HCT := Lib.hid hcon
  clear hcon
  have hemp : (⟨(Lib.trimS (bl d) digits).toArray⟩ : ByteArray).toList.isEmpty = true ↔ ∀ b ∈ bl d, digitB b := by
    rw [empty_iff, decide_eq_true_iff, bl_size, bl_mk, List.length_eq_zero_iff, trimS_nil]
    exact ⟨fun h b hb => (digits_iff b).1 (h b hb), fun h b hb => (digits_iff b).2 (h b hb)⟩
  have HE := Lib.hid hemp
  clear hemp
  generalize (⟨(Lib.trimS (bl d) digits).toArray⟩ : ByteArray) = r at *
  have HNUM : Hid (1 ≤ d.size ∧ d.size ≤ 7) := ⟨by omega, by omega⟩
  clear z1 z2
  go_wp2_with fail
  refine HCT.out.mono ?_
  rintro e w2 ⟨rfl, hb2⟩
  cases he : r.toList.isEmpty
  · have HN : Hid (¬ Q) := fun h => by
      have := HE.out.2 (HQ.out.1 h).2.2.1
      rw [he] at this; cases this
    go_wp2
    go_ret
    exact ⟨false, rfl, iffF HN.out, hb2⟩
  · have HD := Lib.hid (HE.out.1 he)
    have HD0 : Hid ((bl d).head? = some d[0]) := head_bl h0
    by_cases g : bl t = [48]
    · have g' : (t.toList == [48]) = true := by rw [ByteArray.toList_eq]; unfold bl at g; rw [g]; rfl
      have HT : Hid Q := HQ.out.2 ⟨HNUM.out.1, HNUM.out.2, HD.out, .inr g⟩
      clear g
      go_wp2
      go_ret
      exact ⟨true, rfl, iffT HT.out, hb2⟩
    · have g' : (t.toList == [48]) = false := by rw [ByteArray.toList_eq, beq_eq_false_iff_ne]; exact g
      have HG : Hid (bl t ≠ [48]) := g
      clear g
      by_cases g0 : d[0] = 48
      · have g0' : ((d[0].toNat : Int) != 48) = false := by rw [g0]; rfl
        have HN : Hid (¬ Q) := fun h => by
          rcases (HQ.out.1 h).2.2.2 with q | q
          · exact q (by rw [HD0.out, g0])
          · exact HG.out q
        clear g0
        go_wp2
        go_ret
        exact ⟨false, rfl, iffF HN.out, hb2⟩
      · have g0' : ((d[0].toNat : Int) != 48) = true := by
          rw [bne_iff_ne]; intro h; exact g0 (UInt8.toNat_inj.1 (by have : (48 : UInt8).toNat = 48 := rfl; omega))
        have HT : Hid Q := HQ.out.2 ⟨HNUM.out.1, HNUM.out.2, HD.out, .inl (by rw [HD0.out]; intro e; injection e with e; exact g0 e)⟩
        clear g0
        go_wp2
        go_ret
        exact ⟨true, rfl, iffT HT.out, hb2⟩

theorem esc_len_ge (l : List UInt8) : l.length ≤ (l.flatMap (escB qO)).length := by
  induction l with
  | nil => simp
  | cons x r ih => have := (escB_len qO x).1; simp only [List.flatMap_cons, List.length_append, List.length_cons]; omega
theorem esc_same (l : List UInt8) : l.flatMap (escB qO) = l ↔ ∀ b ∈ l, plainB [34] b = true := by
  induction l with
  | nil => simp
  | cons x r ih =>
    simp only [List.flatMap_cons, List.mem_cons, forall_eq_or_imp]
    by_cases h : plainB [34] x = true
    · have e : escB qO x = [x] := by unfold escB qO; rw [if_pos h]
      rw [e]
      simp [h, ih]
    · have e : (escB qO x).length = 3 := by unfold escB qO; rw [if_neg h]; rfl
      constructor
      · intro hh
        exfalso
        have := congrArg List.length hh
        have h2 := esc_len_ge r
        simp only [List.length_append, List.length_cons] at this
        omega
      · exact fun hh => absurd hh.1 h

set_option maxRecDepth 100000 in
set_option maxHeartbeats 1000000 in
theorem isQuotable_any (t : ByteArray) (w : World) (hm : t.size ≤ 1048576) : Calls Tryz.prog 146 #[.string t] w (BoolPost (QuoP t) w) := by
  by_cases h : t.size ≤ 20
  · have h' : (t.size : Int) ≤ 20 := by omega
    have HC := Lib.hid (bytesText_any t w h)
    have HQ : Hid (QuoP t ↔ (bl t).flatMap (escB qO) = bl t) := (Iff.intro (fun q => (esc_same _).2 q.2) (fun q => ⟨h, (esc_same _).1 q⟩))
    obtain ⟨Q, hQ⟩ : ∃ Q : Prop, Q ↔ QuoP t := ⟨_, Iff.rfl⟩
    rw [show QuoP t = Q from (propext hQ).symm]
    rw [← hQ] at HQ
    clear hQ h
    go_enter Tryz.func146, Tryz.ntmps146
    go_wp2_with fail
    refine HC.out.mono ?_
    rintro e w2 ⟨s, rfl, hs, hb2⟩
    have HS := Lib.hid hs
    clear hs HC
    go_wp2
    go_ret
    refine ⟨_, rfl, ?_, hb2⟩
    rw [HQ.out, ← HS.out, beq_iff_eq, ByteArray.toList_eq, ByteArray.toList_eq]
    exact Iff.rfl
  · have h' : ¬ (t.size : Int) ≤ 20 := by omega
    have H := Lib.hid h
    clear h
    go_enter Tryz.func146, Tryz.ntmps146
    go_wp2
    go_ret
    exact ⟨false, rfl, iffF (fun q => H.out q.1), Below.refl _ _⟩

end Go.Proofs.YtkhcappjhefkjaaGreatDoor

