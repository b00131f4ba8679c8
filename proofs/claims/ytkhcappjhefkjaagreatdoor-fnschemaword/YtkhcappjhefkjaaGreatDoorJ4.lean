/- The specification's small functions on values: l31Num, l31Text, l31Names. -/
import Derived.Test.YtkhcappjhefkjaaGreatDoorQ2
import Derived.Test.YtkhcappjhefkjaaGreatDoorP18
namespace Go.Proofs.YtkhcappjhefkjaaGreatDoor
open Go.RowKit
set_option linter.unusedVariables false

def DigTo (s : ByteArray) (j : Nat) : Prop := ∀ u (h : u < s.size), u < j → 48 ≤ s[u].toNat ∧ s[u].toNat ≤ 57
def CoreP (s : ByteArray) : Prop := 1 ≤ s.size ∧ s.size ≤ 7 ∧ (1 < s.size → ∀ h : 0 < s.size, s[0] ≠ 48) ∧ DigTo s s.size
theorem mem_bl {s : ByteArray} {P : UInt8 → Prop} : (∀ b ∈ bl s, P b) ↔ ∀ u (h : u < s.size), P s[u] := by
  constructor
  · intro h u hu
    have hl : u < (bl s).length := by rw [← bl_size]; exact hu
    have := h _ (List.getElem_mem hl)
    rwa [bl_get s u hu] at this
  · intro h b hb
    obtain ⟨u, hu, rfl⟩ := List.getElem_of_mem hb
    rw [← bl_size] at hu
    rw [bl_get s u hu]; exact h u hu
theorem head_bl {s : ByteArray} (h : 0 < s.size) : (bl s).head? = some s[0] := by
  have hl : 0 < (bl s).length := by rw [← bl_size]; exact h
  rw [List.head?_eq_getElem?, List.getElem?_eq_getElem hl, bl_get s 0 h]
theorem core_list (s : ByteArray) : CoreP s ↔ 1 ≤ (bl s).length ∧ (bl s).length ≤ 7 ∧ (1 < (bl s).length → (bl s).head? ≠ some 48) ∧ ∀ b ∈ bl s, digitB b := by
  unfold CoreP DigTo digitB
  rw [mem_bl, ← bl_size]
  constructor
  · rintro ⟨h1, h2, h3, h4⟩
    exact ⟨h1, h2, fun h e => by
      rw [head_bl (by omega)] at e
      injection e with e
      exact h3 h (by omega) e, fun u hu => h4 u hu hu⟩
  · rintro ⟨h1, h2, h3, h4⟩
    exact ⟨h1, h2, fun h h0 e => h3 h (by rw [head_bl h0, e]), fun u hu _ => h4 u hu⟩
theorem num_plain {t : ByteArray} (h : (bl t).head? ≠ some 45) : NumP t ↔ CoreP t := by
  rw [core_list]
  have hf : figs (bl t) = bl t := if_neg h
  unfold NumP
  rw [hf]
  generalize bl t = l
  match l with
  | [] => simp
  | [x] =>
    simp
    intro h1
    by_cases hx : x = 48 <;> simp [hx]
  | x :: y :: r => simp; grind
theorem num_neg {t s : ByteArray} (h : (bl t).head? = some 45) (hs : bl s = (bl t).tail) : NumP t ↔ (bl s ≠ [48] ∧ CoreP s) := by
  rw [core_list]
  have hf : figs (bl t) = bl s := by rw [hs]; exact if_pos h
  unfold NumP
  rw [hf]
  have h2 : bl t ≠ [48] := by intro e; rw [e] at h; simp at h
  simp only [h2, or_false]
  generalize bl s = l
  match l with
  | [] => simp
  | [x] =>
    simp
    grind
  | x :: y :: r => simp; grind

theorem ext1_bl (t : ByteArray) : bl (t.extract 1 t.size) = (bl t).tail := by
  unfold bl
  rw [ByteArray.data_extract, Array.toList_extract, List.extract_eq_take_drop, List.drop_one, List.take_of_length_le]
  simp

set_option maxRecDepth 100000 in
set_option maxHeartbeats 1000000 in
theorem l31Num_plain (t : ByteArray) (w : World) (hm : t.size ≤ 1048576) (h45 : (bl t).head? ≠ some 45) : Calls Tryz.prog 81 #[.string t] w (BoolPost (NumP t) w) := by
  obtain ⟨Q, hQ⟩ : ∃ Q : Prop, Q ↔ CoreP t := ⟨_, Iff.rfl⟩
  rw [show (BoolPost (NumP t) w) = BoolPost Q w by rw [show NumP t = Q from propext ((num_plain h45).trans hQ.symm)]]
  have HQ := Lib.hid hQ
  clear hQ
  by_cases g0 : 0 < t.size
  · have g0' : (0 : Int) < (t.size : Int) := by omega
    have g1 : ((t[0].toNat : Int) == 45) = false := by
      rw [beq_eq_false_iff_ne]; intro h; apply h45; rw [head_bl g0]; congr 1; exact UInt8.toNat_inj.1 (by have : (45 : UInt8).toNat = 45 := rfl; omega)
    clear h45
    go_enter Tryz.func81, Tryz.ntmps81
    by_cases z1 : t.size < 1
    · have z1' : (t.size : Int) < 1 := by omega
      have HN : Hid (¬ Q) := fun h => by have := (HQ.out.1 h).1; omega
      clear z1
      go_wp2
      go_ret
      exact ⟨false, rfl, iffF HN.out, Below.refl _ _⟩
    by_cases z2 : 7 < t.size
    · have z1' : ¬ (t.size : Int) < 1 := by omega
      have z2' : (7 : Int) < (t.size : Int) := by omega
      have HN : Hid (¬ Q) := fun h => by have := (HQ.out.1 h).2.1; omega
      clear z1 z2
      go_wp2
      go_ret
      exact ⟨false, rfl, iffF HN.out, Below.refl _ _⟩
    have z1' : ¬ (t.size : Int) < 1 := by omega
    have z2' : ¬ (7 : Int) < (t.size : Int) := by omega
    have h0 : 0 < t.size := by omega
    by_cases z3 : 1 < t.size ∧ t[0] = 48
    · have z3' : (1 : Int) < (t.size : Int) := by omega
      have z4' : ((t[0].toNat : Int) == 48) = true := by rw [z3.2]; rfl
      have HN : Hid (¬ Q) := fun h => (HQ.out.1 h).2.2.1 z3.1 h0 z3.2
      clear z1 z2 z3
      go_wp2
      go_ret
      exact ⟨false, rfl, iffF HN.out, Below.refl _ _⟩
    have HZ : Hid (1 < t.size → ∀ h : 0 < t.size, t[0] ≠ 48) := fun h h' e => z3 ⟨h, e⟩
    by_cases z4 : 1 < t.size
    · have z3' : (1 : Int) < (t.size : Int) := by omega
      have z4' : ((t[0].toNat : Int) == 48) = false := by
        rw [beq_eq_false_iff_ne]; intro h; exact z3 ⟨z4, UInt8.toNat_inj.1 (by have : (48 : UInt8).toNat = 48 := rfl; omega)⟩
      clear z3
      go_wp2
      go_loop [3] (fun i => ∃ j : Nat, j ≤ t.size ∧ i = .int .i64 j ∧ Hid (DigTo t j)) (fun i => t.size - (intOf i).toNat)
      case atStart => exact ⟨0, Nat.zero_le _, rfl, fun u _ hu => by omega⟩
      case round =>
        obtain ⟨j, hj, rfl, HU⟩ := hrel
        by_cases hlt : j < t.size
        · have hlt' : (j : Int) < (t.size : Int) := by omega
          have HUJ : Hid (48 ≤ t[j].toNat ∧ t[j].toNat ≤ 57 → DigTo t (j + 1)) := fun h1 u hu huj => by
            rcases Nat.lt_succ_iff_lt_or_eq.1 huj with h3 | h3
            · exact HU.out u hu h3
            · subst h3; exact h1
          have HNO : Hid (Q → 48 ≤ t[j].toNat ∧ t[j].toNat ≤ 57) := fun h => (HQ.out.1 h).2.2.2 j hlt hlt
          by_cases g1 : t[j].toNat < 48
          · have g1' : (t[j].toNat : Int) < 48 := by omega
            have G := Lib.hid g1
            clear g1 HU HUJ
            go_wp2
            go_ret
            exact ⟨false, rfl, iffF (fun h => by have := (HNO.out h).1; have := G.out; omega), Below.refl _ _⟩
          · have g1' : ¬ (t[j].toNat : Int) < 48 := by omega
            by_cases g2 : 57 < t[j].toNat
            · have g2' : (57 : Int) < (t[j].toNat : Int) := by omega
              have G := Lib.hid g2
              clear g1 g2 HU HUJ
              go_wp2
              go_ret
              exact ⟨false, rfl, iffF (fun h => by have := (HNO.out h).2; have := G.out; omega), Below.refl _ _⟩
            · have g2' : ¬ (57 : Int) < (t[j].toNat : Int) := by omega
              have HU2 := Lib.hid (HUJ.out ⟨by omega, by omega⟩)
              clear HU HUJ HNO g1 g2
              go_wp2
              go_round
              case rel => exact ⟨j + 1, by omega, by go_num, HU2⟩
              case measure => simp [intOf]; omega
        · have hlt' : ¬ (j : Int) < (t.size : Int) := by omega
          have HT : Hid Q := HQ.out.2 ⟨by omega, by omega, HZ.out, fun u hu _ => HU.out u hu (by omega)⟩
          go_wp2
          go_ret
          exact ⟨true, rfl, iffT HT.out, Below.refl _ _⟩
    · have z3' : ¬ (1 : Int) < (t.size : Int) := by omega
      clear z3
      go_wp2
      go_loop [3] (fun i => ∃ j : Nat, j ≤ t.size ∧ i = .int .i64 j ∧ Hid (DigTo t j)) (fun i => t.size - (intOf i).toNat)
      case atStart => exact ⟨0, Nat.zero_le _, rfl, fun u _ hu => by omega⟩
      case round =>
        obtain ⟨j, hj, rfl, HU⟩ := hrel
        by_cases hlt : j < t.size
        · have hlt' : (j : Int) < (t.size : Int) := by omega
          have HUJ : Hid (48 ≤ t[j].toNat ∧ t[j].toNat ≤ 57 → DigTo t (j + 1)) := fun h1 u hu huj => by
            rcases Nat.lt_succ_iff_lt_or_eq.1 huj with h3 | h3
            · exact HU.out u hu h3
            · subst h3; exact h1
          have HNO : Hid (Q → 48 ≤ t[j].toNat ∧ t[j].toNat ≤ 57) := fun h => (HQ.out.1 h).2.2.2 j hlt hlt
          by_cases g1 : t[j].toNat < 48
          · have g1' : (t[j].toNat : Int) < 48 := by omega
            have G := Lib.hid g1
            clear g1 HU HUJ
            go_wp2
            go_ret
            exact ⟨false, rfl, iffF (fun h => by have := (HNO.out h).1; have := G.out; omega), Below.refl _ _⟩
          · have g1' : ¬ (t[j].toNat : Int) < 48 := by omega
            by_cases g2 : 57 < t[j].toNat
            · have g2' : (57 : Int) < (t[j].toNat : Int) := by omega
              have G := Lib.hid g2
              clear g1 g2 HU HUJ
              go_wp2
              go_ret
              exact ⟨false, rfl, iffF (fun h => by have := (HNO.out h).2; have := G.out; omega), Below.refl _ _⟩
            · have g2' : ¬ (57 : Int) < (t[j].toNat : Int) := by omega
              have HU2 := Lib.hid (HUJ.out ⟨by omega, by omega⟩)
              clear HU HUJ HNO g1 g2
              go_wp2
              go_round
              case rel => exact ⟨j + 1, by omega, by go_num, HU2⟩
              case measure => simp [intOf]; omega
        · have hlt' : ¬ (j : Int) < (t.size : Int) := by omega
          have HT : Hid Q := HQ.out.2 ⟨by omega, by omega, HZ.out, fun u hu _ => HU.out u hu (by omega)⟩
          go_wp2
          go_ret
          exact ⟨true, rfl, iffT HT.out, Below.refl _ _⟩
  · have g0' : ¬ (0 : Int) < (t.size : Int) := by omega
    have z1' : (t.size : Int) < 1 := by omega
    have HN : Hid (¬ Q) := fun h => by have := (HQ.out.1 h).1; omega
    go_enter Tryz.func81, Tryz.ntmps81
    go_wp2
    go_ret
    exact ⟨false, rfl, iffF HN.out, Below.refl _ _⟩

set_option maxRecDepth 100000 in
set_option maxHeartbeats 1000000 in
theorem l31Num_neg (t : ByteArray) (w : World) (hm : t.size ≤ 1048576) (h45 : (bl t).head? = some 45) : Calls Tryz.prog 81 #[.string t] w (BoolPost (NumP t) w) := by
  have g0 : 0 < t.size := by
    rw [bl_size]; cases h : bl t with
    | nil => rw [h] at h45; cases h45
    | cons x r => simp
  have g0' : (0 : Int) < (t.size : Int) := by omega
  have g1 : ((t[0].toNat : Int) == 45) = true := by
    rw [head_bl g0] at h45; injection h45 with h45; rw [h45]; rfl
  have he := ext1_bl t
  have hsz : (t.extract 1 t.size).size + 1 = t.size := by
    rw [bl_size, he, bl_size, List.length_tail]; rw [bl_size] at g0; omega
  have hnn := num_neg h45 he
  generalize hs : t.extract 1 t.size = s at *
  have HS := Lib.hid hs
  obtain ⟨Q, hQ⟩ : ∃ Q : Prop, Q ↔ CoreP s := ⟨_, Iff.rfl⟩
  rw [show (BoolPost (NumP t) w) = BoolPost (bl s ≠ [48] ∧ Q) w by rw [show NumP t = (bl s ≠ [48] ∧ Q) from propext (hnn.trans (by rw [hQ]))]]
  have HQ := Lib.hid hQ
  clear hQ hnn h45 he
  have hs1 : s.size ≤ t.size := by omega
  by_cases g2 : bl s = [48]
  · have g2' : (s.toList == [48]) = true := by rw [ByteArray.toList_eq]; unfold bl at g2; rw [g2]; rfl
    have HN : Hid (¬ (bl s ≠ [48] ∧ Q)) := fun h => h.1 g2
    clear g2
    go_enter Tryz.func81, Tryz.ntmps81
    go_wp2
    go_ret
    exact ⟨false, rfl, iffF HN.out, Below.refl _ _⟩
  · have g2' : (s.toList == [48]) = false := by rw [ByteArray.toList_eq, beq_eq_false_iff_ne]; exact g2
    have HB : Hid (bl s ≠ [48]) := g2
    clear g2
    go_enter Tryz.func81, Tryz.ntmps81
    by_cases z1 : s.size < 1
    · have z1' : (s.size : Int) < 1 := by omega
      have HN : Hid (¬ (bl s ≠ [48] ∧ Q)) := fun h => by have := (HQ.out.1 h.2).1; omega
      clear z1
      go_wp2
      go_ret
      exact ⟨false, rfl, iffF HN.out, Below.refl _ _⟩
    by_cases z2 : 7 < s.size
    · have z1' : ¬ (s.size : Int) < 1 := by omega
      have z2' : (7 : Int) < (s.size : Int) := by omega
      have HN : Hid (¬ (bl s ≠ [48] ∧ Q)) := fun h => by have := (HQ.out.1 h.2).2.1; omega
      clear z1 z2
      go_wp2
      go_ret
      exact ⟨false, rfl, iffF HN.out, Below.refl _ _⟩
    have z1' : ¬ (s.size : Int) < 1 := by omega
    have z2' : ¬ (7 : Int) < (s.size : Int) := by omega
    have h0 : 0 < s.size := by omega
    by_cases z3 : 1 < s.size ∧ s[0] = 48
    · have z3' : (1 : Int) < (s.size : Int) := by omega
      have z4' : ((s[0].toNat : Int) == 48) = true := by rw [z3.2]; rfl
      have HN : Hid (¬ (bl s ≠ [48] ∧ Q)) := fun h => (HQ.out.1 h.2).2.2.1 z3.1 h0 z3.2
      clear z1 z2 z3
      go_wp2
      go_ret
      exact ⟨false, rfl, iffF HN.out, Below.refl _ _⟩
    have HZ : Hid (1 < s.size → ∀ h : 0 < s.size, s[0] ≠ 48) := fun h h' e => z3 ⟨h, e⟩
    by_cases z4 : 1 < s.size
    · have z3' : (1 : Int) < (s.size : Int) := by omega
      have z4' : ((s[0].toNat : Int) == 48) = false := by
        rw [beq_eq_false_iff_ne]; intro h; exact z3 ⟨z4, UInt8.toNat_inj.1 (by have : (48 : UInt8).toNat = 48 := rfl; omega)⟩
      clear z3
      go_wp2
      go_loop [3] (fun i => ∃ j : Nat, j ≤ s.size ∧ i = .int .i64 j ∧ Hid (DigTo s j)) (fun i => s.size - (intOf i).toNat)
      case atStart => exact ⟨0, Nat.zero_le _, rfl, fun u _ hu => by omega⟩
      case round =>
        obtain ⟨j, hj, rfl, HU⟩ := hrel
        by_cases hlt : j < s.size
        · have hlt' : (j : Int) < (s.size : Int) := by omega
          have HUJ : Hid (48 ≤ s[j].toNat ∧ s[j].toNat ≤ 57 → DigTo s (j + 1)) := fun h1 u hu huj => by
            rcases Nat.lt_succ_iff_lt_or_eq.1 huj with h3 | h3
            · exact HU.out u hu h3
            · subst h3; exact h1
          have HNO : Hid (Q → 48 ≤ s[j].toNat ∧ s[j].toNat ≤ 57) := fun h => (HQ.out.1 h).2.2.2 j hlt hlt
          by_cases g1 : s[j].toNat < 48
          · have g1' : (s[j].toNat : Int) < 48 := by omega
            have G := Lib.hid g1
            clear g1 HU HUJ
            go_wp2
            go_ret
            exact ⟨false, rfl, iffF (fun h => by have := (HNO.out h.2).1; have := G.out; omega), Below.refl _ _⟩
          · have g1' : ¬ (s[j].toNat : Int) < 48 := by omega
            by_cases g2 : 57 < s[j].toNat
            · have g2' : (57 : Int) < (s[j].toNat : Int) := by omega
              have G := Lib.hid g2
              clear g1 g2 HU HUJ
              go_wp2
              go_ret
              exact ⟨false, rfl, iffF (fun h => by have := (HNO.out h.2).2; have := G.out; omega), Below.refl _ _⟩
            · have g2' : ¬ (57 : Int) < (s[j].toNat : Int) := by omega
              have HU2 := Lib.hid (HUJ.out ⟨by omega, by omega⟩)
              clear HU HUJ HNO g1 g2
              go_wp2
              go_round
              case rel => exact ⟨j + 1, by omega, by go_num, HU2⟩
              case measure => simp [intOf]; omega
        · have hlt' : ¬ (j : Int) < (s.size : Int) := by omega
          have HT : Hid (bl s ≠ [48] ∧ Q) := ⟨HB.out, HQ.out.2 ⟨by omega, by omega, HZ.out, fun u hu _ => HU.out u hu (by omega)⟩⟩
          go_wp2
          go_ret
          exact ⟨true, rfl, iffT HT.out, Below.refl _ _⟩
    · have z3' : ¬ (1 : Int) < (s.size : Int) := by omega
      clear z3
      go_wp2
      go_loop [3] (fun i => ∃ j : Nat, j ≤ s.size ∧ i = .int .i64 j ∧ Hid (DigTo s j)) (fun i => s.size - (intOf i).toNat)
      case atStart => exact ⟨0, Nat.zero_le _, rfl, fun u _ hu => by omega⟩
      case round =>
        obtain ⟨j, hj, rfl, HU⟩ := hrel
        by_cases hlt : j < s.size
        · have hlt' : (j : Int) < (s.size : Int) := by omega
          have HUJ : Hid (48 ≤ s[j].toNat ∧ s[j].toNat ≤ 57 → DigTo s (j + 1)) := fun h1 u hu huj => by
            rcases Nat.lt_succ_iff_lt_or_eq.1 huj with h3 | h3
            · exact HU.out u hu h3
            · subst h3; exact h1
          have HNO : Hid (Q → 48 ≤ s[j].toNat ∧ s[j].toNat ≤ 57) := fun h => (HQ.out.1 h).2.2.2 j hlt hlt
          by_cases g1 : s[j].toNat < 48
          · have g1' : (s[j].toNat : Int) < 48 := by omega
            have G := Lib.hid g1
            clear g1 HU HUJ
            go_wp2
            go_ret
            exact ⟨false, rfl, iffF (fun h => by have := (HNO.out h.2).1; have := G.out; omega), Below.refl _ _⟩
          · have g1' : ¬ (s[j].toNat : Int) < 48 := by omega
            by_cases g2 : 57 < s[j].toNat
            · have g2' : (57 : Int) < (s[j].toNat : Int) := by omega
              have G := Lib.hid g2
              clear g1 g2 HU HUJ
              go_wp2
              go_ret
              exact ⟨false, rfl, iffF (fun h => by have := (HNO.out h.2).2; have := G.out; omega), Below.refl _ _⟩
            · have g2' : ¬ (57 : Int) < (s[j].toNat : Int) := by omega
              have HU2 := Lib.hid (HUJ.out ⟨by omega, by omega⟩)
              clear HU HUJ HNO g1 g2
              go_wp2
              go_round
              case rel => exact ⟨j + 1, by omega, by go_num, HU2⟩
              case measure => simp [intOf]; omega
        · have hlt' : ¬ (j : Int) < (s.size : Int) := by omega
          have HT : Hid (bl s ≠ [48] ∧ Q) := ⟨HB.out, HQ.out.2 ⟨by omega, by omega, HZ.out, fun u hu _ => HU.out u hu (by omega)⟩⟩
          go_wp2
          go_ret
          exact ⟨true, rfl, iffT HT.out, Below.refl _ _⟩

theorem l31Num_any (t : ByteArray) (w : World) (hm : t.size ≤ 1048576) : Calls Tryz.prog 81 #[.string t] w (BoolPost (NumP t) w) := by
  by_cases h : (bl t).head? = some 45
  · exact l31Num_neg t w hm h
  · exact l31Num_plain t w hm h

/-- The bytes of a text are such as need no sign ahead. -/
def TxtTo (s : ByteArray) (j : Nat) : Prop := ∀ u (h : u < s.size), u < j → plainB [34] s[u] = true
theorem plain_iff (b : UInt8) : plainB [34] b = true ↔ 32 ≤ b.toNat ∧ b.toNat ≤ 126 ∧ b.toNat ≠ 34 ∧ b.toNat ≠ 92 := by
  unfold plainB
  have e1 : b ≠ 92 ↔ b.toNat ≠ 92 := by
    rw [ne_eq, ← UInt8.toNat_inj]; rfl
  have e2 : b ≠ 34 ↔ b.toNat ≠ 34 := by
    rw [ne_eq, ← UInt8.toNat_inj]; rfl
  simp
  rw [← ne_eq, ← ne_eq, e1, e2]
  omega

set_option maxRecDepth 100000 in
set_option maxHeartbeats 1000000 in
theorem l31Text_any (t : ByteArray) (w : World) (hm : t.size ≤ 1048576) : Calls Tryz.prog 82 #[.string t] w (BoolPost (∀ b ∈ bl t, plainB [34] b = true) w) := by
  obtain ⟨Q, hQ⟩ : ∃ Q : Prop, Q ↔ TxtTo t t.size := ⟨_, Iff.rfl⟩
  rw [show (BoolPost (∀ b ∈ bl t, plainB [34] b = true) w) = BoolPost Q w by rw [show (∀ b ∈ bl t, plainB [34] b = true) = Q from propext (mem_bl.trans (by rw [hQ]; exact ⟨fun h u hu _ => h u hu, fun h u hu => h u hu hu⟩))]]
  have HQ := Lib.hid hQ
  clear hQ
  go_enter Tryz.func82, Tryz.ntmps82
  go_wp2
  go_loop [3] (fun i => ∃ j : Nat, j ≤ t.size ∧ i = .int .i64 j ∧ Hid (TxtTo t j)) (fun i => t.size - (intOf i).toNat)
  case atStart => exact ⟨0, Nat.zero_le _, rfl, fun u _ hu => by omega⟩
  case round =>
    obtain ⟨j, hj, rfl, HU⟩ := hrel
    by_cases hlt : j < t.size
    · have hlt' : (j : Int) < (t.size : Int) := by omega
      have HUJ : Hid (plainB [34] t[j] = true → TxtTo t (j + 1)) := fun h1 u hu huj => by
        rcases Nat.lt_succ_iff_lt_or_eq.1 huj with h3 | h3
        · exact HU.out u hu h3
        · subst h3; exact h1
      have HNO : Hid (Q → plainB [34] t[j] = true) := fun h => (HQ.out.1 h) j hlt hlt
      rw [plain_iff] at HUJ HNO
      by_cases g1 : t[j].toNat < 32
      · have g1' : (t[j].toNat : Int) < 32 := by omega
        have G := Lib.hid g1
        clear g1 HU HUJ
        go_wp2
        go_ret
        exact ⟨false, rfl, iffF (fun h => by have := (HNO.out h).1; have := G.out; omega), Below.refl _ _⟩
      have g1' : ¬ (t[j].toNat : Int) < 32 := by omega
      by_cases g2 : 126 < t[j].toNat
      · have g2' : (126 : Int) < (t[j].toNat : Int) := by omega
        have G := Lib.hid g2
        clear g1 g2 HU HUJ
        go_wp2
        go_ret
        exact ⟨false, rfl, iffF (fun h => by have := (HNO.out h).2.1; have := G.out; omega), Below.refl _ _⟩
      have g2' : ¬ (126 : Int) < (t[j].toNat : Int) := by omega
      by_cases g3 : t[j].toNat = 34
      · have g3' : ((t[j].toNat : Int) == 34) = true := by rw [g3]; rfl
        have G := Lib.hid g3
        clear g1 g2 g3 HU HUJ
        go_wp2
        go_ret
        exact ⟨false, rfl, iffF (fun h => (HNO.out h).2.2.1 G.out), Below.refl _ _⟩
      have g3' : ((t[j].toNat : Int) == 34) = false := by rw [beq_eq_false_iff_ne]; omega
      by_cases g4 : t[j].toNat = 92
      · have g4' : ((t[j].toNat : Int) == 92) = true := by rw [g4]; rfl
        have G := Lib.hid g4
        clear g1 g2 g3 g4 HU HUJ
        go_wp2
        go_ret
        exact ⟨false, rfl, iffF (fun h => (HNO.out h).2.2.2 G.out), Below.refl _ _⟩
      have g4' : ((t[j].toNat : Int) == 92) = false := by rw [beq_eq_false_iff_ne]; omega
      have HU2 := Lib.hid (HUJ.out ⟨by omega, by omega, g3, g4⟩)
      clear HU HUJ HNO g1 g2 g3 g4
      go_wp2
      go_round
      case rel => exact ⟨j + 1, by omega, by go_num, HU2⟩
      case measure => simp [intOf]; omega
    · have hlt' : ¬ (j : Int) < (t.size : Int) := by omega
      have HT : Hid Q := HQ.out.2 (fun u hu _ => HU.out u hu (by omega))
      go_wp2
      go_ret
      exact ⟨true, rfl, iffT HT.out, Below.refl _ _⟩

/-- The first names are as they should be. -/
def NmsTo (ns : List ByteArray) (j : Nat) : Prop := ∀ i (h : i < ns.length), i < j → NameP ns[i] ∧ ∀ k (hk : k < i), ns[k] ≠ ns[i]
theorem nms_iff {ns : List ByteArray} : NmsP ns ↔ NmsTo ns ns.length := by
  unfold NmsP NmsTo
  exact ⟨fun h i hi _ => ⟨h.1 i hi, h.2 i hi⟩, fun h => ⟨fun i hi => (h i hi hi).1, fun i hi => (h i hi hi).2⟩⟩

set_option maxRecDepth 100000 in
set_option maxHeartbeats 1000000 in
theorem l31Names_any (ns : List ByteArray) (A : Option Addr) (ca : Nat) (w : World) (hr : Row w A (strs ns)) (hm : ns.length ≤ 1048576) (hn : ∀ n ∈ ns, n.size ≤ 1048576) :
    Calls Tryz.prog 71 #[.slice A ns.length ca] w (BoolPost (NmsP ns) w) := by
  obtain ⟨Q, hQ⟩ : ∃ Q : Prop, Q ↔ NmsTo ns ns.length := ⟨_, Iff.rfl⟩
  rw [show NmsP ns = Q from propext (nms_iff.trans hQ.symm)]
  have HQ := Lib.hid hQ
  have HR := Lib.hid hr
  have HN := Lib.hid hn
  clear hQ hr hn
  go_enter Tryz.func71, Tryz.ntmps71
  go_wp2
  go_loopw [3, 4] (fun i _ wr => ∃ j : Nat, j ≤ ns.length ∧ i = .int .i64 j ∧ Hid (NmsTo ns j) ∧ Below w.heap.size w wr) (fun i _ _ => ns.length - (intOf i).toNat)
  case atStart => exact ⟨0, Nat.zero_le _, rfl, fun u _ hu => by omega, Below.refl _ _⟩
  case round =>
    obtain ⟨j, hj, rfl, HU, hb⟩ := hrel
    by_cases hlt : j < ns.length
    · have hlt' : (j : Int) < (ns.length : Int) := by omega
      obtain ⟨b, off, rfl, hc⟩ := (HR.out.keep hb).str hlt
      have HRW : Hid (∀ w', Below w.heap.size w w' → ∀ k (hk : k < ns.length), w'.cell? ⟨b, off + k, none⟩ = some (.string ns[k])) := fun w' h k hk => by
        obtain ⟨b', off', e', hc'⟩ := (HR.out.keep h).str hk
        injection e' with e'; injection e' with e1 e2; subst e1 e2; exact hc'
      have HUJ : Hid ((NameP ns[j] ∧ ∀ k (hk : k < j), ns[k] ≠ ns[j]) → NmsTo ns (j + 1)) := fun h1 u hu huj => by
        rcases Nat.lt_succ_iff_lt_or_eq.1 huj with h3 | h3
        · exact HU.out u hu h3
        · subst h3; exact h1
      have HNO : Hid (Q → NameP ns[j] ∧ ∀ k (hk : k < j), ns[k] ≠ ns[j]) := fun h => HQ.out.1 h j hlt hlt
      have HSJ : Hid (∀ w', Below w.heap.size w w' → w'.cell? ⟨b, off + j, none⟩ = some (.string ns[j])) := fun w' h => HRW.out w' h j hlt
      have hsz := HN.out _ (List.getElem_mem hlt)
      have HNK : Hid (∀ k (hk : k < j) (h : k < ns.length), ns[k] = ns[k]) := fun k hk h => rfl
      generalize hsj : ns[j] = s at *
      have HC := Lib.hid (l2Name_any s wr hsz)
      go_wp2_with fail
      refine HC.out.mono ?_
      rintro e w2 ⟨r, rfl, h1, hb2⟩
      have hb' := hb.trans (hb2.mono hb.size)
      have H1 := Lib.hid h1
      clear hb2 h1 HC hc hb
      cases r
      · go_wp2
        go_ret
        exact ⟨false, rfl, iffF (fun h => by have := H1.out.2 (HNO.out h).1; cases this), hb'⟩
      · go_wp2
        go_loopw [4] (fun i wr => ∃ k : Nat, k ≤ j ∧ i = .int .i64 k ∧ Hid (∀ u (h : u < ns.length), u < k → ns[u] ≠ s) ∧ Below w.heap.size w wr) (fun i _ => j - (intOf i).toNat)
        case atStart => exact ⟨0, Nat.zero_le _, rfl, fun u _ hu => by omega, hb'⟩
        case round =>
          clear hb'
          obtain ⟨k, hk, rfl, HV, hb⟩ := hrel
          by_cases hlt2 : k < j
          · have hlt2' : (k : Int) < (j : Int) := by omega
            have hkn : k < ns.length := by omega
            have hkn' : (k : Int) < (ns.length : Int) := by omega
            have c1 := HRW.out wr hb k hkn
            have c2 := HSJ.out wr hb
            have HV2 : Hid (ns[k] ≠ s → ∀ u (h : u < ns.length), u < k + 1 → ns[u] ≠ s) := fun h1 u hu huj => by
              rcases Nat.lt_succ_iff_lt_or_eq.1 huj with h3 | h3
              · exact HV.out u hu h3
              · subst h3; exact h1
            have HNO2 : Hid (Q → ns[k] ≠ s) := fun h => (HNO.out h).2 k hlt2
            generalize ns[k] = q at *
            by_cases g : q = s
            · have g' : (q.toList == s.toList) = true := by rw [g]; simp
              have HF : Hid (¬ Q) := fun h => HNO2.out h g
              clear g HV HV2 HNO2
              go_wp2
              go_quiet (fail)
              go_wp2
              go_ret
              exact ⟨false, rfl, iffF HF.out, below_drewN hb _⟩
            · have g' : (q.toList == s.toList) = false := str_ne g
              have HV3 := Lib.hid (HV2.out g)
              clear g HV HV2 HNO2
              go_wp2
              go_quiet (fail)
              go_wp2
              go_roundw
              case rel => exact ⟨k + 1, by omega, by go_num, HV3, below_drewN hb _⟩
              case measure => simp [intOf]; omega
          · have hlt2' : ¬ (k : Int) < (j : Int) := by omega
            have HU3 : Hid (NmsTo ns (j + 1)) := HUJ.out ⟨(by first | exact H1.out.1 rfl | exact H1.out.1 trivial), fun u hu => HV.out u (by omega) (by omega)⟩
            go_wp2
            go_roundw
            case rel => exact ⟨j + 1, by omega, by go_num, HU3, hb⟩
            case measure => simp [intOf]; omega
    · have hlt' : ¬ (j : Int) < (ns.length : Int) := by omega
      obtain rfl : j = ns.length := by omega
      have HT : Hid Q := HQ.out.2 HU.out
      go_wp2
      go_ret
      exact ⟨true, rfl, iffT HT.out, hb⟩

end Go.Proofs.YtkhcappjhefkjaaGreatDoor

