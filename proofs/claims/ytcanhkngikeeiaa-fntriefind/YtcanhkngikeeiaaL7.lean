/- What toIntS does. -/
import Derived.Test.YtcanhkngikeeiaaL6
namespace Go.Proofs.Ytcanhkngikeeiaa
open Go.RowKit
set_option linter.unusedVariables false

/-- A new slice of ints. -/
def NewInts (ss : List Int) (w : World) (e : Ending) (w' : World) : Prop :=
  ∃ g, e = .returned (.slice (some ⟨g, 0, none⟩) ss.length ss.length) ∧ w.heap.size ≤ g ∧ Own w' g 3 (ints ss) ∧ Below w.heap.size w w'

theorem ints_snoc (ss : List Int) (k : Nat) (h : k < ss.length) : ints (ss.take (k + 1)) = ints (ss.take k) ++ [.int .i64 ss[k]] := by
  unfold ints; rw [List.take_succ_eq_append_getElem h, List.map_append]; rfl

set_option maxHeartbeats 400000 in
theorem toI_any (a : Option Addr) (c : Nat) (ss : List Int) (w : World) (hr : Row w a (ints ss)) (hm : ss.length ≤ 1048576) :
    Calls Try.prog 39 #[.slice a ss.length c] w (NewInts ss w) := by
  have HR := Lib.hid hr
  clear hr
  have hmk := run_make_row' (P := Try.prog) 26 3 (.int .i64 0) 8 Try.underlying26 info3 rfl .i64 .i64 ss.length (by omega) (by omega)
  go_enter Try.func39, Try.ntmps39
  go_wp2
  clear hmk
  go_loopw [4] (fun i wr => ∃ k : Nat, k ≤ ss.length ∧ i = .int .i64 k ∧ Own wr w.heap.size 3 (ints (ss.take k) ++ List.replicate (ss.length - k) (.int .i64 0)) ∧ Below w.heap.size w wr) (fun i _ => ss.length - (intOf i).toNat)
  case atStart => exact ⟨0, Nat.zero_le _, rfl, by simpa [ints] using Own.made w 3 (.int .i64 0) ss.length, below_box _⟩
  case round =>
    obtain ⟨k, hk, rfl, hown, hb⟩ := hrel
    by_cases hlt : k < ss.length
    · obtain ⟨b, off, rfl, hc⟩ := (HR.out.keep hb).int hlt
      have hl : (ints (ss.take k)).length = k := by simp; omega
      obtain ⟨v, hv⟩ : ∃ v, wr.cell? ⟨w.heap.size, k, none⟩ = some v := ⟨_, hown.cell_ (by simp; omega)⟩
      have hf := hown.frozen k
      have R : Own (wr.setCell ⟨w.heap.size, k, none⟩ (.int .i64 ss[k])) w.heap.size 3 (ints (ss.take (k + 1)) ++ List.replicate (ss.length - (k + 1)) (.int .i64 0)) := by
        have := hown.set_ k (.int .i64 ss[k])
        rwa [set_next hl hlt, ← ints_snoc ss k hlt] at this
      have HB : Below w.heap.size w (wr.setCell ⟨w.heap.size, k, none⟩ (.int .i64 ss[k])) := hb.setCell (Nat.le_refl _) _
      clear hown hb
      go_wp2
      go_roundw
      case rel => exact ⟨k + 1, by omega, by go_num, R, HB⟩
      case measure => simp [intOf]; omega
    · go_wp2
      go_ret
      have hkk : k = ss.length := by omega
      subst hkk
      exact ⟨_, rfl, Nat.le_refl _, by simpa using hown, hb⟩

end Go.Proofs.Ytcanhkngikeeiaa
