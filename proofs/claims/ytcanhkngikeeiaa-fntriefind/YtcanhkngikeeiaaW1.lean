/- What the calls of VocOk and its kin do. Each: for every input. -/
import Derived.Test.YtcanhkngikeeiaaBase
namespace Go.Proofs.Ytcanhkngikeeiaa
open Go.RowKit

theorem ret_bool {a b : Bool} (h : a = b) : Ending.returned (.bool a) = .returned (.bool b) := by rw [h]
theorem ret_int {k : IntKind} {a b : Int} (h : a = b) : Ending.returned (.int k a) = .returned (.int k b) := by rw [h]

def inB (n lo hi : Int) : Bool := decide (lo ≤ n) && decide (n ≤ hi)

set_option maxHeartbeats 400000 in
theorem in_any (n lo hi : Int) (w : World) :
    Calls Try.prog 52 #[.int .i64 n, .int .i64 lo, .int .i64 hi] w fun e w' => e = .returned (.bool (inB n lo hi)) ∧ w = w' := by
  go_enter Try.func52, Try.ntmps52
  go_wp2
  · go_ret
    exact ⟨ret_bool (by unfold inB; simp [*]), rfl⟩
  · go_ret
    exact ⟨ret_bool (by unfold inB; simp; omega), rfl⟩

def longB (s : ByteArray) : Bool := decide (6 < (s.size : Int))

set_option maxHeartbeats 400000 in
theorem tooLong_any (s : ByteArray) (w : World) :
    Calls Try.prog 56 #[.string s] w fun e w' => e = .returned (.bool (longB s)) ∧ w = w' := by
  go_enter Try.func56, Try.ntmps56
  go_wp2
  go_ret
  exact ⟨rfl, rfl⟩

/-- The place of the first that is too long, or -1. -/
def firstLong (ss : List ByteArray) : Int := match ss.findIdx? longB with | some k => k | none => -1

theorem firstLong_lt (ss : List ByteArray) : decide (firstLong ss < 0) = !ss.any longB := by
  unfold firstLong
  rcases h : ss.findIdx? longB with _ | k
  · have := List.findIdx?_eq_none_iff.1 h
    simp only [decide_eq_true (show (-1 : Int) < 0 by omega)]
    symm
    simp
    exact this
  · have := List.findIdx?_eq_some_iff_getElem.1 h
    obtain ⟨hk, hx, _⟩ := this
    have : ss.any longB = true := by
      rw [List.any_eq_true]; exact ⟨_, List.getElem_mem hk, hx⟩
    rw [this]
    simp

theorem firstLong_here (ss : List ByteArray) (k : Nat) (hk : k < ss.length) (h : ∀ j (hj : j < k), longB (ss[j]'(by omega)) = false) (hl : longB ss[k] = true) : firstLong ss = k := by
  have : ss.findIdx? longB = some k := List.findIdx?_eq_some_iff_getElem.2 ⟨hk, hl, fun j hj => by simp [h j hj]⟩
  simp [firstLong, this]
theorem firstLong_none (ss : List ByteArray) (h : ∀ j (hj : j < ss.length), longB ss[j] = false) : firstLong ss = -1 := by
  have : ss.findIdx? longB = none := List.findIdx?_eq_none_iff.2 (fun x hx => by
    obtain ⟨j, hj, rfl⟩ := List.getElem_of_mem hx
    exact h j hj)
  simp [firstLong, this]

def NoLong (ss : List ByteArray) (k : Nat) : Prop := ∀ j, (hj : j < k) → (h : j < ss.length) → longB ss[j] = false

set_option maxHeartbeats 400000 in
theorem indexOf_any (a : Option Addr) (c : Nat) (ss : List ByteArray) (w : World) (hr : Row w a (strs ss)) (hm : ss.length ≤ 1048576) :
    Calls Try.prog 55 #[.slice a ss.length c, .func (.func 56) #[] #[]] w fun e w' => e = .returned (.int .i64 (firstLong ss)) ∧ w = w' := by
  have HR := Lib.hid hr
  clear hr
  go_enter Try.func55, Try.ntmps55
  go_wp2
  go_loop [9] (fun i => ∃ k : Nat, k ≤ ss.length ∧ i = .int .i64 k ∧ NoLong ss k) (fun i => ss.length - (intOf i).toNat)
  case atStart => exact ⟨0, Nat.zero_le _, rfl, fun j hj => by omega⟩
  case round =>
    obtain ⟨k, hk, rfl, hno⟩ := hrel
    by_cases hlt : k < ss.length
    · obtain ⟨b, off, rfl, hc⟩ := HR.out.str hlt
      cases hL : longB ss[k]
      · go_wp2_with (go_at_call 56; refine (tooLong_any _ _).mono ?_; rintro e w' ⟨rfl, rfl⟩)
        go_round
        case rel => exact ⟨k + 1, by omega, by go_num, fun j hj h => by
          rcases Nat.lt_succ_iff_lt_or_eq.1 hj with h1 | h1
          · exact hno j h1 h
          · subst h1; exact hL⟩
        case measure => simp [intOf]; omega
      · go_wp2_with (go_at_call 56; refine (tooLong_any _ _).mono ?_; rintro e w' ⟨rfl, rfl⟩)
        go_ret
        exact ⟨ret_int (firstLong_here ss k hlt (fun j hj => hno j hj (by omega)) hL).symm, rfl⟩
    · go_wp2
      go_ret
      exact ⟨ret_int (firstLong_none ss (fun j hj => hno j (by omega) hj)).symm, rfl⟩

end Go.Proofs.Ytcanhkngikeeiaa
