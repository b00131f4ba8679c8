/- What l6Many does. -/
import Derived.Test.YtjfohdalpjoaeaaDoorD3
namespace Go.Proofs.YtjfohdalpjoaeaaDoor
open Go.RowKit
set_option linter.unusedVariables false

def ManyPost (s : ByteArray) (n : Int) (w : World) (e : Ending) (w' : World) : Prop := ∃ t : ByteArray, e = .returned (.string t) ∧ t.size = s.size * n.toNat ∧ w = w'

theorem many_step (o s n : Nat) (h : 0 < n) : o + s * n = (if n % 2 = 1 then o + s else o) + (s + s) * (n / 2) := by
  have h1 := Nat.div_add_mod n 2
  split
  · rename_i hm
    have : n = 2 * (n / 2) + 1 := by omega
    conv => lhs; rw [this]
    rw [Nat.mul_add, Nat.add_mul, Nat.mul_left_comm]
    omega
  · have : n = 2 * (n / 2) := by omega
    conv => lhs; rw [this]
    rw [Nat.mul_left_comm, Nat.add_mul]
    omega

set_option maxHeartbeats 400000 in
theorem many_any (s : ByteArray) (n : Int) (w : World) (hn0 : 0 ≤ n) (hn : n ≤ 1000) (hs : s.size ≤ 100) :
    Calls Tryd.prog 30 #[.string s, .int .i64 n] w (ManyPost s n w) := by
  go_enter Tryd.func30, Tryd.ntmps30
  go_wp2
  go_loop [0, 1, 5] (fun a b c => ∃ (x t : ByteArray) (m : Nat), a = .string x ∧ b = .int .i64 m ∧ c = .string t ∧ t.size ≤ 100000 ∧ x.size ≤ 200000 ∧ m ≤ 1000 ∧ Hid (t.size + x.size * m = s.size * n.toNat)) (fun _ b _ => (intOf b).toNat)
  case atStart => exact ⟨s, ⟨#[]⟩, n.toNat, rfl, by go_num, rfl, by show 0 ≤ _; omega, by omega, by omega, by unfold Hid; show 0 + _ = _; omega⟩
  case round =>
    obtain ⟨x, t, m, rfl, rfl, rfl, h1, h2, h3, h4⟩ := hrel
    have htot : s.size * n.toNat ≤ 100000 := Nat.le_trans (Nat.mul_le_mul hs (show n.toNat ≤ 1000 by omega)) (by omega)
    by_cases hm : 0 < m
    · have hm' : (0 : Int) < (m : Int) := by omega
      have hst := many_step t.size x.size m hm
      rw [h4.out] at hst
      have hx1 : x.size * 1 ≤ x.size * m := Nat.mul_le_mul_left _ hm
      have hx2 : x.size ≤ 100000 := by have := h4.out; omega
      by_cases hodd : m % 2 = 1
      · have ho : ((m : Int) % 2 == 1) = true := by rw [beq_iff_eq]; omega
        rw [if_pos hodd] at hst
        have HST := Lib.hid hst
        clear hst hodd
        go_wp2
        go_round
        case rel => exact ⟨x ++ x, t ++ x, m / 2, rfl, by go_num, rfl, by rw [ByteArray.size_append]; have := h4.out; omega, by rw [ByteArray.size_append]; omega, by omega, by unfold Hid; rw [ByteArray.size_append, ByteArray.size_append]; exact HST.out.symm⟩
        case measure => simp [intOf]; omega
      · have ho : ((m : Int) % 2 == 1) = false := by rw [beq_eq_false_iff_ne]; omega
        rw [if_neg hodd] at hst
        have HST := Lib.hid hst
        clear hst hodd
        go_wp2
        go_round
        case rel => exact ⟨x ++ x, t, m / 2, rfl, by go_num, rfl, h1, by rw [ByteArray.size_append]; omega, by omega, by unfold Hid; rw [ByteArray.size_append]; exact HST.out.symm⟩
        case measure => simp [intOf]; omega
    · have hm' : ¬ (0 : Int) < (m : Int) := by omega
      go_wp2
      go_ret
      obtain rfl : m = 0 := by omega
      exact ⟨t, rfl, by simpa using h4.out, rfl⟩

end Go.Proofs.YtjfohdalpjoaeaaDoor
