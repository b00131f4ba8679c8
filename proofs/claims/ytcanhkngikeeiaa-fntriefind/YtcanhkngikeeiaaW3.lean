/- What the laws' own helpers on vocabularies do: szVoc, toVoc, eqVoc. Each: for every input. -/
import Derived.Test.YtcanhkngikeeiaaW2
namespace Go.Proofs.Ytcanhkngikeeiaa
open Go.RowKit

/-- How many bytes some strings have together. -/
def tot (ss : List ByteArray) : Nat := (ss.map ByteArray.size).sum
theorem tot_snoc (ss : List ByteArray) (k : Nat) (h : k < ss.length) : tot (ss.take (k + 1)) = tot (ss.take k) + ss[k].size := by
  unfold tot; rw [List.take_succ_eq_append_getElem h, List.map_append, List.sum_append]; simp

/-- A number below 0, or there is room for all strings. -/
def Sized (ss : List ByteArray) (left r : Int) : Prop := r < 0 ∨ (0 ≤ r ∧ r = left - ss.length - tot ss)
def SzPost (ss : List ByteArray) (left : Int) (w : World) (e : Ending) (w' : World) : Prop := ∃ r : Int, e = .returned (.int .i64 r) ∧ Sized ss left r ∧ Below w.heap.size w w'

set_option maxHeartbeats 400000 in
theorem szS_any (a : Option Addr) (c : Nat) (ss : List ByteArray) (left : Int) (w : World) (hr : Row w a (strs ss)) (hm : ss.length ≤ maxLen)
    (hs : ∀ s ∈ ss, s.size ≤ maxLen) (hl0 : 0 ≤ left) (hl1 : left ≤ 1048576) :
    Calls Try.prog 70 #[.slice a ss.length c, .int .i64 left] w (SzPost ss left w) := by
  have HR := Lib.hid hr
  have HS := Lib.hid hs
  clear hr hs
  unfold maxLen at hm
  by_cases h1 : left - (ss.length : Int) < 0
  · go_enter Try.func70, Try.ntmps70
    go_wp2
    go_ret
    exact ⟨-1, rfl, .inl (by omega), Below.refl _ _⟩
  · go_enter Try.func70, Try.ntmps70
    go_wp2
    go_loop [1, 5] (fun l i => ∃ k : Nat, k ≤ ss.length ∧ i = .int .i64 k ∧ ∃ r : Int, l = .int .i64 r ∧ 0 ≤ r ∧ r ≤ 1048576 ∧ Hid (r = left - ss.length - tot (ss.take k))) (fun _ i => ss.length - (intOf i).toNat)
    case atStart => exact ⟨0, Nat.zero_le _, rfl, _, rfl, by omega, by omega, by simp [Hid, tot]⟩
    case round =>
      obtain ⟨k, hk, rfl, r, rfl, hr0, hr1, hr2⟩ := hrel
      by_cases hlt : k < ss.length
      · obtain ⟨b, off, rfl, hc⟩ := HR.out.str hlt
        have hz : ss[k].size ≤ 9223372036854775807 := HS.out _ (List.getElem_mem hlt)
        by_cases hneg : r - (ss[k].size : Int) < 0
        · go_wp2
          go_ret
          exact ⟨-1, rfl, .inl (by omega), Below.refl _ _⟩
        · go_wp2
          go_round
          case rel => exact ⟨k + 1, by omega, by go_num, _, rfl, by omega, by omega, by have := hr2.out; unfold Hid; rw [tot_snoc ss k hlt]; omega⟩
          case measure => simp [intOf]; omega
      · go_wp2
        go_ret
        refine ⟨r, rfl, .inr ⟨hr0, ?_⟩, Below.refl _ _⟩
        have := hr2.out
        rw [List.take_of_length_le (by omega)] at this
        exact this

set_option maxHeartbeats 400000 in
theorem szVoc_any (a : Option Addr) (c : Nat) (ss : List ByteArray) (en left : Int) (w : World) (hr : Row w a (strs ss)) (hm : ss.length ≤ maxLen)
    (hs : ∀ s ∈ ss, s.size ≤ maxLen) (hl0 : 0 ≤ left) (hl1 : left ≤ 1048576) :
    Calls Try.prog 36 #[.agg #[.slice a ss.length c, .int .i64 en], .int .i64 left] w (SzPost ss left w) := by
  have HR := Lib.hid hr
  have HS := Lib.hid hs
  clear hr hs
  go_enter Try.func36, Try.ntmps36
  go_wp2_with fail
  refine (szS_any a c ss left _ (HR.out.keep (below_box _)) hm HS.out hl0 hl1).mono ?_
  rintro e w1 ⟨r, rfl, hz, hb⟩
  have hb' : Below w.heap.size w w1 := (below_box _).trans (hb.mono (by simp))
  by_cases hn : r < 0
  · go_wp2
    go_ret
    exact ⟨-1, rfl, .inl (by omega), hb'⟩
  · go_wp2
    go_ret
    exact ⟨r, rfl, hz, hb'⟩

theorem info9 : (Try.prog.info? 9).map (fun i => (i.zero, i.size, i.bytes)) = some (some (.string ByteArray.empty), 1, 16) := by kernel_rfl
theorem info3 : (Try.prog.info? 3).map (fun i => (i.zero, i.size, i.bytes)) = some (some (.int .i64 0), 1, 8) := by kernel_rfl

/-- A new slice of strings. -/
def NewStrs (ss : List ByteArray) (w : World) (e : Ending) (w' : World) : Prop :=
  ∃ g, e = .returned (.slice (some ⟨g, 0, none⟩) ss.length ss.length) ∧ w.heap.size ≤ g ∧ Own w' g 9 (strs ss) ∧ Below w.heap.size w w'

theorem strs_snoc (ss : List ByteArray) (k : Nat) (h : k < ss.length) : strs (ss.take (k + 1)) = strs (ss.take k) ++ [.string ss[k]] := by
  unfold strs; rw [List.take_succ_eq_append_getElem h, List.map_append]; rfl

set_option maxHeartbeats 400000 in
theorem toS_any (a : Option Addr) (c : Nat) (ss : List ByteArray) (w : World) (hr : Row w a (strs ss)) (hm : ss.length ≤ 1048576) :
    Calls Try.prog 71 #[.slice a ss.length c] w (NewStrs ss w) := by
  have HR := Lib.hid hr
  clear hr
  have hmk := run_make_row' (P := Try.prog) 23 9 (.string ByteArray.empty) 16 Try.underlying23 info9 rfl .i64 .i64 ss.length (by omega) (by omega)
  go_enter Try.func71, Try.ntmps71
  go_wp2
  clear hmk
  go_loopw [4] (fun i wr => ∃ k : Nat, k ≤ ss.length ∧ i = .int .i64 k ∧ Own wr w.heap.size 9 (strs (ss.take k) ++ List.replicate (ss.length - k) (.string ByteArray.empty)) ∧ Below w.heap.size w wr) (fun i _ => ss.length - (intOf i).toNat)
  case atStart => exact ⟨0, Nat.zero_le _, rfl, by simpa [strs] using Own.made w 9 (.string ByteArray.empty) ss.length, below_box _⟩
  case round =>
    obtain ⟨k, hk, rfl, hown, hb⟩ := hrel
    by_cases hlt : k < ss.length
    · obtain ⟨b, off, rfl, hc⟩ := (HR.out.keep hb).str hlt
      have hl : (strs (ss.take k)).length = k := by simp; omega
      obtain ⟨v, hv⟩ : ∃ v, wr.cell? ⟨w.heap.size, k, none⟩ = some v := ⟨_, hown.cell_ (by simp; omega)⟩
      have hf := hown.frozen k
      have R : Own (wr.setCell ⟨w.heap.size, k, none⟩ (.string ss[k])) w.heap.size 9 (strs (ss.take (k + 1)) ++ List.replicate (ss.length - (k + 1)) (.string ByteArray.empty)) := by
        have := hown.set_ k (.string ss[k])
        rwa [set_next hl hlt, ← strs_snoc ss k hlt] at this
      have HB : Below w.heap.size w (wr.setCell ⟨w.heap.size, k, none⟩ (.string ss[k])) := hb.setCell (Nat.le_refl _) _
      clear hown hb
      go_wp2
      go_roundw
      case rel => exact ⟨k + 1, by omega, by go_num, R, HB⟩
      case measure => simp [intOf]; omega
    · go_wp2
      go_ret
      have hkk : k = ss.length := by omega
      subst hkk
      exact ⟨_, rfl, Nat.le_refl _, by simpa using hown, hb⟩

end Go.Proofs.Ytcanhkngikeeiaa
