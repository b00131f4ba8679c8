/- The specification's small functions of a grammar's text: l2Hex, l2Byte, l6Dec. -/
import Derived.Test.YtadfjdgjlgpncaaGreatDoorW0
import Derived.Laws.BytesArg
namespace Go.Proofs.YtadfjdgjlgpncaaGreatDoor
open Go.RowKit
set_option linter.unusedVariables false

/-- A text is answered. -/
def TextIs (l : List UInt8) (w : World) (e : Ending) (w' : World) : Prop := ∃ s : ByteArray, e = .returned (.string s) ∧ bl s = l ∧ Below w.heap.size w w'

/-- One byte that was just made a slice of, as a string. -/
theorem conv1 (z : Int) (w : World) : (convert 22 9 (.slice (some ⟨w.heap.size, 0, none⟩) 1 1)).run Tryz.prog (w.alloc (.cells #[.int .u8 z] 5)) = .ok (.string (strOfNums [z])) (w.alloc (.cells #[.int .u8 z] 5)) :=
  run_convert_bytes_arg _ 22 5 Tryz.underlying22 Tryz.underlying5 w.heap.size 0 1 1 [z] rfl (fun i hi => by
    have : i = 0 := by omega
    subst this
    simp) 9 Tryz.underlying9
theorem bl_nums (zs : List Int) : bl (strOfNums zs) = zs.map fun n => UInt8.ofNat n.toNat := rfl
theorem u8_of (b : UInt8) : UInt8.ofNat ((b.toNat : Int)).toNat = b := by simp

def hexS : ByteArray := ⟨#[48, 49, 50, 51, 52, 53, 54, 55, 56, 57, 97, 98, 99, 100, 101, 102]⟩
theorem hexS_cut (x : Nat) (h : x < 16) : bl (hexS.extract x (x + 1)) = [hexd x] := by
  have : ∀ x : Fin 16, bl (hexS.extract x.val (x.val + 1)) = [hexd x.val] := by decide
  exact this ⟨x, h⟩

set_option maxRecDepth 100000 in
set_option maxHeartbeats 1000000 in
theorem l2Hex_any (x y : Nat) (w : World) (hx : x < 16) (hy : y < 16) :
    Calls Tryz.prog 95 #[.int .i64 ((16 * x + y : Nat) : Int)] w (TextIs [hexd x, hexd y] w) := by
  have d1 : Int.tdiv ((16 * x + y : Nat) : Int) 16 = (x : Int) := by rw [Int.tdiv_eq_ediv_of_nonneg (by omega)]; omega
  have d2 : Int.tmod ((16 * x + y : Nat) : Int) 16 = (y : Int) := by rw [Int.tmod_eq_emod_of_nonneg (by omega)]; omega
  have w1 : IntKind.i64.wrap (x : Int) = (x : Int) := IntWalk.i64_in _ (by omega)
  have w2 : IntKind.i64.wrap ((x : Int) + 1) = (x : Int) + 1 := IntWalk.i64_in _ (by omega)
  have w3 : IntKind.i64.wrap (y : Int) = (y : Int) := IntWalk.i64_in _ (by omega)
  have w4 : IntKind.i64.wrap ((y : Int) + 1) = (y : Int) + 1 := IntWalk.i64_in _ (by omega)
  have e1 : ((x : Int) + 1).toNat = x + 1 := by omega
  have e2 : ((y : Int) + 1).toNat = y + 1 := by omega
  have i1 : (0 : Int) ≤ (x : Int) := by omega
  have i2 : (x : Int) + 1 ≤ 16 := by omega
  have i3 : (0 : Int) ≤ (y : Int) := by omega
  have i4 : (y : Int) + 1 ≤ 16 := by omega
  have i5 : (0 : Int) ≤ (x : Int) + 1 := by omega
  have i6 : (0 : Int) ≤ (y : Int) + 1 := by omega
  generalize ((16 * x + y : Nat) : Int) = b at *
  go_enter Tryz.func95, Tryz.ntmps95
  go_wp2
  go_quiet (fail)
  go_wp2
  go_ret
  exact ⟨_, rfl, by rw [bl_append]; show bl (hexS.extract x (x + 1)) ++ bl (hexS.extract y (y + 1)) = _; rw [hexS_cut x hx, hexS_cut y hy]; rfl, ⟨rfl, rfl, rfl, Nat.le_refl _, fun _ _ => rfl⟩⟩

theorem u8_nat (b : UInt8) : ∃ x y : Nat, x < 16 ∧ y < 16 ∧ b.toNat = 16 * x + y ∧ x = b.toNat / 16 ∧ y = b.toNat % 16 := by
  have := b.toNat_lt
  exact ⟨b.toNat / 16, b.toNat % 16, by omega, by omega, by omega, rfl, rfl⟩
theorem l2Hex_u8 (b : UInt8) (w : World) : Calls Tryz.prog 95 #[.int .i64 (b.toNat : Int)] w (TextIs [hexd (b.toNat / 16), hexd (b.toNat % 16)] w) := by
  obtain ⟨x, y, hx, hy, e, rfl, rfl⟩ := u8_nat b
  have := l2Hex_any _ _ w hx hy
  rw [← e] at this
  exact this

def BoolLoop (own : ByteArray) (b : UInt8) (j : Nat) : Prop := ∀ u (h : u < own.size), u < j → own[u] ≠ b

set_option maxRecDepth 100000 in
set_option maxHeartbeats 1000000 in
theorem l2Byte_any (b : UInt8) (own : ByteArray) (w : World) (ho : own.size ≤ 100) :
    Calls Tryz.prog 59 #[.int .i64 (b.toNat : Int), .string own] w (TextIs (escB (bl own) b) w) := by
  have hb := b.toNat_lt
  have HX := Lib.hid (l2Hex_u8 b w)
  have HNO : Hid (plainB (bl own) b = false → escB (bl own) b = 92 :: [hexd (b.toNat / 16), hexd (b.toNat % 16)]) := fun h => by unfold escB; rw [h]; rfl
  by_cases h1 : b.toNat < 32
  · have h1' : (b.toNat : Int) < 32 := by omega
    have HE := Lib.hid (HNO.out (by unfold plainB; rw [decide_eq_false (by omega : ¬ 32 ≤ b.toNat)]; rfl))
    go_enter Tryz.func59, Tryz.ntmps59
    go_wp2_with fail
    refine HX.out.mono ?_
    rintro e w2 ⟨s, rfl, hs, hb2⟩
    have hsz : s.size = 2 := by rw [bl_size, hs]; rfl
    have hsz1 : s.size ≤ 2 := by omega
    have HS := Lib.hid hs
    clear hs hsz
    go_wp2
    go_ret
    exact ⟨_, rfl, by rw [bl_append, HS.out, HE.out]; rfl, hb2⟩
  by_cases h2 : 126 < b.toNat
  · have h1' : ¬ (b.toNat : Int) < 32 := by omega
    have h2' : (126 : Int) < (b.toNat : Int) := by omega
    have HE := Lib.hid (HNO.out (by unfold plainB; rw [decide_eq_false (by omega : ¬ b.toNat ≤ 126)]; simp))
    go_enter Tryz.func59, Tryz.ntmps59
    go_wp2_with fail
    refine HX.out.mono ?_
    rintro e w2 ⟨s, rfl, hs, hb2⟩
    have hsz : s.size = 2 := by rw [bl_size, hs]; rfl
    have hsz1 : s.size ≤ 2 := by omega
    have HS := Lib.hid hs
    clear hs hsz
    go_wp2
    go_ret
    exact ⟨_, rfl, by rw [bl_append, HS.out, HE.out]; rfl, hb2⟩
  have h1' : ¬ (b.toNat : Int) < 32 := by omega
  have h2' : ¬ (126 : Int) < (b.toNat : Int) := by omega
  by_cases h3 : b = 92
  · have h3' : ((b.toNat : Int) == 92) = true := by rw [h3]; rfl
    have HE := Lib.hid (HNO.out (by unfold plainB; rw [h3]; simp))
    clear h3
    go_enter Tryz.func59, Tryz.ntmps59
    go_wp2_with fail
    refine HX.out.mono ?_
    rintro e w2 ⟨s, rfl, hs, hb2⟩
    have hsz : s.size = 2 := by rw [bl_size, hs]; rfl
    have hsz1 : s.size ≤ 2 := by omega
    have HS := Lib.hid hs
    clear hs hsz
    go_wp2
    go_ret
    exact ⟨_, rfl, by rw [bl_append, HS.out, HE.out]; rfl, hb2⟩
  have h3' : ((b.toNat : Int) == 92) = false := by
    rw [beq_eq_false_iff_ne]; intro h; exact h3 (UInt8.toNat_inj.1 (by show b.toNat = 92; omega))
  have HP : Hid ((∀ u (h : u < own.size), own[u] ≠ b) → escB (bl own) b = [b]) := fun h => by
    have hp : plainB (bl own) b = true := by
      unfold plainB
      rw [decide_eq_true (by omega : 32 ≤ b.toNat), decide_eq_true (by omega : b.toNat ≤ 126)]
      have : (bl own).contains b = false := by
        rw [Bool.eq_false_iff]; intro hc
        rw [List.contains_iff_mem] at hc
        obtain ⟨u, hu, e⟩ := List.getElem_of_mem hc
        rw [← bl_size] at hu
        exact h u hu ((bl_get own u hu).symm.trans e)
      rw [this]
      simp [h3]
    unfold escB; rw [hp]; rfl
  have HN2 : Hid (∀ u (h : u < own.size), own[u] = b → escB (bl own) b = 92 :: [hexd (b.toNat / 16), hexd (b.toNat % 16)]) := fun u hu e => HNO.out (by
    have : (bl own).contains b = true := by
      rw [List.contains_iff_mem, ← e, ← bl_get own u hu]
      exact List.getElem_mem _
    unfold plainB; rw [this]; simp)
  clear h3
  go_enter Tryz.func59, Tryz.ntmps59
  go_wp2
  go_loop [5] (fun i => ∃ j : Nat, j ≤ own.size ∧ i = .int .i64 j ∧ Hid (∀ u (h : u < own.size), u < j → own[u] ≠ b)) (fun i => own.size - (intOf i).toNat)
  case atStart => exact ⟨0, Nat.zero_le _, rfl, fun u _ hu => by omega⟩
  case round =>
    obtain ⟨j, hj, rfl, HU⟩ := hrel
    by_cases hlt : j < own.size
    · have hlt' : (j : Int) < (own.size : Int) := by omega
      by_cases g : own[j] = b
      · have g' : ((own[j].toNat : Int) == (b.toNat : Int)) = true := by rw [g]; simp
        have HE := Lib.hid (HN2.out j hlt g)
        have hw : IntKind.i64.wrap (own[j].toNat : Int) = (own[j].toNat : Int) := by have := own[j].toNat_lt; exact IntWalk.i64_in _ (by omega)
        clear g HU HP HN2 HNO
        go_wp2_with fail
        refine HX.out.mono ?_
        rintro e w2 ⟨s, rfl, hs, hb2⟩
        have hsz : s.size = 2 := by rw [bl_size, hs]; rfl
        have hsz1 : s.size ≤ 2 := by omega
        have HS := Lib.hid hs
        clear hs hsz
        go_wp2
        go_ret
        exact ⟨_, rfl, by rw [bl_append, HS.out, HE.out]; rfl, hb2⟩
      · have g' : ((own[j].toNat : Int) == (b.toNat : Int)) = false := by
          rw [beq_eq_false_iff_ne]; intro h; exact g (UInt8.toNat_inj.1 (by omega))
        have hw : IntKind.i64.wrap (own[j].toNat : Int) = (own[j].toNat : Int) := by have := own[j].toNat_lt; exact IntWalk.i64_in _ (by omega)
        have HU2 : Hid (∀ u (h : u < own.size), u < j + 1 → own[u] ≠ b) := fun u hu huj => by
          rcases Nat.lt_succ_iff_lt_or_eq.1 huj with h3 | h3
          · exact HU.out u hu h3
          · subst h3; exact g
        clear g HU HP HN2 HNO
        go_wp2
        go_round
        case rel => exact ⟨j + 1, by omega, by go_num, HU2⟩
        case measure => simp [intOf]; omega
    · have hlt' : ¬ (j : Int) < (own.size : Int) := by omega
      have HE := Lib.hid (HP.out (fun u hu => HU.out u hu (by omega)))
      have hcv := conv1 (b.toNat : Int) w
      clear HU HP HN2 HNO
      go_wp2
      go_ret
      exact ⟨_, rfl, by rw [bl_nums, HE.out]; simp, (Below.refl _ _).alloc (Nat.le_refl _) _⟩

set_option maxRecDepth 100000 in
set_option maxHeartbeats 1000000 in
theorem l6Dec_small (z : Int) (w : World) (h0 : 0 ≤ z) (h1 : z < 10) : Calls Tryz.prog 96 #[.int .i64 z] w (TextIs [dig z] w) := by
  have d1 : ¬ z < -9223372036854775807 := by omega
  have d2 : ¬ z < 0 := by omega
  have hcv := conv1 (48 + z) w
  have HZ : Hid (bl (strOfNums [48 + z]) = [dig z]) := by
    show _ = _
    rw [bl_nums]
    unfold dig
    have : (48 + z).toNat = 48 + z.toNat := by omega
    simp [this]
  go_enter Tryz.func96, Tryz.ntmps96
  go_wp2
  go_ret
  exact ⟨_, rfl, HZ.out, (Below.refl _ _).alloc (Nat.le_refl _) _⟩

end Go.Proofs.YtadfjdgjlgpncaaGreatDoor
