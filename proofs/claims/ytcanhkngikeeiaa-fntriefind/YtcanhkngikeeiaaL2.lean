/- What longestPiece does. -/
import Derived.Test.YtcanhkngikeeiaaL1
namespace Go.Proofs.Ytcanhkngikeeiaa
open Go.RowKit
set_option linter.unusedVariables false

theorem bestLen_le {ss : List ByteArray} (en : Int) (text : ByteArray) (k : Nat) (hs : ∀ s ∈ ss, s.size ≤ 1048576) : bestLen ss en text k ≤ 1048576 := by
  unfold bestLen
  split
  · omega
  · unfold pieceAt
    rcases Nat.lt_or_ge (bestTo ss en text k).toNat ss.length with h | h
    · simp only [List.getD_eq_getElem?_getD, List.getElem?_eq_getElem h, Option.getD_some]
      exact hs _ (List.getElem_mem h)
    · simp [List.getD_eq_getElem?_getD, List.getElem?_eq_none h]

theorem pieceAt_le {ss : List ByteArray} (k : Nat) (hs : ∀ s ∈ ss, s.size ≤ 1048576) : (pieceAt ss k).size ≤ 1048576 := by
  unfold pieceAt
  rcases Nat.lt_or_ge k ss.length with h | h
  · simp only [List.getD_eq_getElem?_getD, List.getElem?_eq_getElem h, Option.getD_some]
    exact hs _ (List.getElem_mem h)
  · simp [List.getD_eq_getElem?_getD, List.getElem?_eq_none h]

set_option maxHeartbeats 1000000 in
theorem longest_any (a : Option Addr) (c : Nat) (ss : List ByteArray) (en : Int) (text : ByteArray) (w : World) (hr : Row w a (strs ss)) (hm : ss.length ≤ 1048576) (hs : ∀ s ∈ ss, s.size ≤ 1048576) (ht : text.size ≤ 1048576) :
    Calls Try.prog 61 #[.agg #[.slice a ss.length c, .int .i64 en], .string text] w fun e w' => e = .returned (.int .i64 (bestTo ss en text ss.length)) ∧ Below w.heap.size w w' := by
  have HR := Lib.hid hr
  have HS := Lib.hid hs
  clear hr hs
  go_enter Try.func61, Try.ntmps61
  go_wp2
  go_loopw [5, 6, 12] (fun best len i wr => ∃ k : Nat, k ≤ ss.length ∧ i = .int .i64 k ∧ best = .int .i64 (bestTo ss en text k) ∧ len = .int .i64 (bestLen ss en text k) ∧
      wr.cell? ⟨w.heap.size, 0, none⟩ = some (.slice a ss.length c) ∧ wr.cell? ⟨w.heap.size, 1, none⟩ = some (.int .i64 en) ∧ Below w.heap.size w wr) (fun _ _ i _ => ss.length - (intOf i).toNat)
  case atStart => exact ⟨0, Nat.zero_le _, rfl, rfl, rfl, by simp, by simp, below_box _⟩
  case round =>
    obtain ⟨k, hk, rfl, rfl, rfl, h0, h1, hb⟩ := hrel
    by_cases hlt : k < ss.length
    · have hr := HR.out.keep hb
      obtain ⟨b, off, rfl, hc⟩ := hr.piece hlt
      have HR2 := Lib.hid hr
      clear hr
      have hk' : (k : Int) < (ss.length : Int) := by omega
      have hl1 := bestLen_le (ss := ss) en text k HS.out
      have hl2 := pieceAt_le (ss := ss) k HS.out
      cases hp : plainB ss en k
      · have N := bestTo_no (text := text) (.inl hp)
        have HN := Lib.hid N
        clear N
        go_wp2_with ((go_at_call 78; refine (implPlain_any _ _ ss en k _ HR2.out hlt hm).mono ?_; rintro e w1 ⟨rfl, hb1⟩))
        go_roundw
        case rel => exact ⟨k + 1, by omega, by go_num, by rw [HN.out.1], by rw [HN.out.2], cell_keep hb1 h0, cell_keep hb1 h1, hb.trans (hb1.mono hb.size)⟩
        case measure => simp [intOf]; omega
      · by_cases hl : bestLen ss en text k < (pieceAt ss k).size
        · cases hf : fitsB text (pieceAt ss k)
          · have N := bestTo_no (ss := ss) (en := en) (k := k) (text := text) (.inr (.inl hf))
            have HN := Lib.hid N
            clear N
            go_wp2_with (first | (go_at_call 78; refine (implPlain_any _ _ ss en k _ HR2.out hlt hm).mono ?_; rintro e w1 ⟨rfl, hb1⟩) | (go_at_call 79; refine (prefix_any text (pieceAt ss k) _ (by unfold maxLen; omega) (by unfold maxLen; omega)).mono ?_; rintro e w2 ⟨rfl, rfl⟩))
            go_roundw
            case rel => exact ⟨k + 1, by omega, by go_num, by rw [HN.out.1], by rw [HN.out.2], cell_keep hb1 h0, cell_keep hb1 h1, hb.trans (hb1.mono hb.size)⟩
            case measure => simp [intOf]; omega
          · have N := bestTo_yes hp hf hl
            have HN := Lib.hid N
            clear N
            go_wp2_with (first | (go_at_call 78; refine (implPlain_any _ _ ss en k _ HR2.out hlt hm).mono ?_; rintro e w1 ⟨rfl, hb1⟩) | (go_at_call 79; refine (prefix_any text (pieceAt ss k) _ (by unfold maxLen; omega) (by unfold maxLen; omega)).mono ?_; rintro e w2 ⟨rfl, rfl⟩))
            go_roundw
            case rel => exact ⟨k + 1, by omega, by go_num, by rw [HN.out.1], by rw [HN.out.2], cell_keep hb1 h0, cell_keep hb1 h1, hb.trans (hb1.mono hb.size)⟩
            case measure => simp [intOf]; omega
        · have N := bestTo_no (ss := ss) (en := en) (k := k) (text := text) (.inr (.inr hl))
          have HN := Lib.hid N
          clear N
          go_wp2_with ((go_at_call 78; refine (implPlain_any _ _ ss en k _ HR2.out hlt hm).mono ?_; rintro e w1 ⟨rfl, hb1⟩))
          go_roundw
          case rel => exact ⟨k + 1, by omega, by go_num, by rw [HN.out.1], by rw [HN.out.2], cell_keep hb1 h0, cell_keep hb1 h1, hb.trans (hb1.mono hb.size)⟩
          case measure => simp [intOf]; omega
    · go_wp2
      go_ret
      have hkk : k = ss.length := by omega
      subst hkk
      exact ⟨rfl, hb⟩

end Go.Proofs.Ytcanhkngikeeiaa
