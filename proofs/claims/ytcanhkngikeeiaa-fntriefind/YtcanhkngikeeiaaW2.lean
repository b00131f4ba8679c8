/- What impl.VocOk and spec.VocOk do: the same, for every vocabulary in memory. -/
import Derived.Test.YtcanhkngikeeiaaW1
namespace Go.Proofs.Ytcanhkngikeeiaa
open Go.RowKit

/-- Whether a vocabulary is valid. -/
def vocOkB (ss : List ByteArray) (en : Int) : Bool := decide (1 ≤ ss.length) && decide (ss.length ≤ 40) && decide (-1 ≤ en) && decide (en < ss.length) && !ss.any longB

theorem below_box {w : World} (o : Obj) : Below w.heap.size w (w.alloc o) := (Below.refl _ _).alloc (Nat.le_refl _) _

set_option maxHeartbeats 400000 in
theorem implOk_any (a : Option Addr) (c : Nat) (ss : List ByteArray) (en : Int) (w : World) (hr : Row w a (strs ss)) (hm : ss.length ≤ 1048576) :
    Calls Try.prog 22 #[.agg #[.slice a ss.length c, .int .i64 en]] w fun e w' => e = .returned (.bool (vocOkB ss en)) ∧ Below w.heap.size w w' := by
  have HR := Lib.hid hr
  clear hr
  by_cases h1 : ss.length < 1
  · have h1' : (ss.length : Int) < 1 := by omega
    go_enter Try.func22, Try.ntmps22
    go_wp2
    go_ret
    exact ⟨ret_bool (by unfold vocOkB; simp; omega), below_box _⟩
  · have h1' : ¬ (ss.length : Int) < 1 := by omega
    by_cases h2 : 40 < ss.length
    · have h2' : (40 : Int) < ss.length := by omega
      go_enter Try.func22, Try.ntmps22
      go_wp2
      go_ret
      exact ⟨ret_bool (by unfold vocOkB; simp; omega), below_box _⟩
    · have h2' : ¬ (40 : Int) < ss.length := by omega
      by_cases h3 : en < -1
      · go_enter Try.func22, Try.ntmps22
        go_wp2
        go_ret
        exact ⟨ret_bool (by unfold vocOkB; simp; omega), below_box _⟩
      · by_cases h4 : (ss.length : Int) ≤ en
        · go_enter Try.func22, Try.ntmps22
          go_wp2
          go_ret
          exact ⟨ret_bool (by unfold vocOkB; simp; omega), below_box _⟩
        · go_enter Try.func22, Try.ntmps22
          go_wp2_with fail
          refine (indexOf_any a c ss _ (HR.out.keep (below_box _)) hm).mono ?_
          rintro e w' ⟨rfl, rfl⟩
          go_wp2
          go_ret
          exact ⟨ret_bool (by rw [firstLong_lt]; unfold vocOkB; have e1 : 1 ≤ ss.length := by omega
                              have e2 : ss.length ≤ 40 := by omega
                              have e3 : -1 ≤ en := by omega
                              have e4 : en < ss.length := by omega
                              simp [e1, e2, e3, e4]), below_box _⟩

theorem any_take {ss : List ByteArray} {k : Nat} (hk : k < ss.length) (h : longB ss[k] = true) : ss.any longB = true :=
  List.any_eq_true.2 ⟨_, List.getElem_mem hk, h⟩
theorem any_none {ss : List ByteArray} (h : NoLong ss ss.length) : ss.any longB = false := by
  rw [List.any_eq_false]
  intro x hx
  obtain ⟨j, hj, rfl⟩ := List.getElem_of_mem hx
  simp [h j hj hj]

set_option maxHeartbeats 400000 in
theorem specOk_any (a : Option Addr) (c : Nat) (ss : List ByteArray) (en : Int) (w : World) (hr : Row w a (strs ss)) (hm : ss.length ≤ 1048576) :
    Calls Try.prog 23 #[.agg #[.slice a ss.length c, .int .i64 en]] w fun e w' => e = .returned (.bool (vocOkB ss en)) ∧ Below w.heap.size w w' := by
  have HR := Lib.hid hr
  clear hr
  by_cases h1 : ss.length < 1
  · have h1' : (ss.length : Int) < 1 := by omega
    go_enter Try.func23, Try.ntmps23
    go_wp2
    go_ret
    exact ⟨ret_bool (by unfold vocOkB; simp; omega), below_box _⟩
  · have h1' : ¬ (ss.length : Int) < 1 := by omega
    by_cases h2 : 40 < ss.length
    · have h2' : (40 : Int) < ss.length := by omega
      go_enter Try.func23, Try.ntmps23
      go_wp2
      go_ret
      exact ⟨ret_bool (by unfold vocOkB; simp; omega), below_box _⟩
    · have h2' : ¬ (40 : Int) < ss.length := by omega
      have h5 : (0 : Int) ≤ (ss.length : Int) - 1 := by omega
      cases hI : inB en (-1) ((ss.length : Int) - 1)
      · go_enter Try.func23, Try.ntmps23
        go_wp2_with (go_at_call 52; refine (in_any _ _ _ _).mono ?_; rintro e w' ⟨rfl, rfl⟩)
        go_ret
        exact ⟨ret_bool (by unfold inB at hI; unfold vocOkB; simp at hI ⊢; omega), below_box _⟩
      · have HI := Lib.hid hI
        go_enter Try.func23, Try.ntmps23
        go_wp2_with (go_at_call 52; refine (in_any _ _ _ _).mono ?_; rintro e w' ⟨rfl, rfl⟩)
        go_loop [3] (fun i => ∃ k : Nat, k ≤ ss.length ∧ i = .int .i64 k ∧ NoLong ss k) (fun i => ss.length - (intOf i).toNat)
        case atStart => exact ⟨0, Nat.zero_le _, rfl, fun j hj => by omega⟩
        case round =>
          obtain ⟨k, hk, rfl, hno⟩ := hrel
          by_cases hlt : k < ss.length
          · obtain ⟨b, off, rfl, hc⟩ := (HR.out.keep (below_box (.cells #[.slice a ss.length c, .int .i64 en] 25))).str hlt
            cases hL : longB ss[k]
            · have hL2 : ¬ 6 < ss[k].size := by unfold longB at hL; simp at hL; omega
              go_wp2
              go_round
              case rel => exact ⟨k + 1, by omega, by go_num, fun j hj h => by
                rcases Nat.lt_succ_iff_lt_or_eq.1 hj with h1 | h1
                · exact hno j h1 h
                · subst h1; exact hL⟩
              case measure => simp [intOf]; omega
            · have hL2 : 6 < ss[k].size := by unfold longB at hL; simp at hL; omega
              go_wp2
              go_ret
              exact ⟨ret_bool (by unfold vocOkB; simp [any_take hlt hL]), below_box _⟩
          · go_wp2
            go_ret
            have hkk : k = ss.length := by omega
            subst hkk
            have H := HI.out
            exact ⟨ret_bool (by unfold inB at H; unfold vocOkB; simp [any_none hno] at H ⊢; omega), below_box _⟩

end Go.Proofs.Ytcanhkngikeeiaa
