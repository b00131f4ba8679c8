/- impl.bytesText, impl.rangesText (written by tools/gen_w9.py). -/
import Derived.Test.YtkhcappjhefkjaaGreatDoorW4
namespace Go.Proofs.YtkhcappjhefkjaaGreatDoor
open Go.RowKit
set_option linter.unusedVariables false

def qO : List UInt8 := [34]
theorem flat_take {α : Type} (f : α → List UInt8) (l : List α) (j : Nat) (h : j < l.length) : (l.take (j + 1)).flatMap f = (l.take j).flatMap f ++ f l[j] := by
  rw [List.take_succ_eq_append_getElem h, List.flatMap_append]; simp

set_option maxRecDepth 100000 in
set_option maxHeartbeats 4000000 in
theorem bytesText_any (t : ByteArray) (w : World) (hm : t.size ≤ 20) : Calls Tryz.prog 160 #[.string t] w (TextIs ((bl t).flatMap (escB qO)) w) := by
  have HN := Lib.hid (BU.new w)
  have HBX : Hid (Below w.heap.size w (w.alloc (.cells #[.pointer none, .slice none 0 0] 107))) := below_box _
  go_enter Tryz.func160, Tryz.ntmps160
  go_wp2
  generalize (w.alloc (.cells #[.pointer none, .slice none 0 0] 107)) = W0 at *
  go_loopw [7] (fun i wr => ∃ (j : Nat) (l : List UInt8), j ≤ t.size ∧ i = .int .i64 j ∧ Hid (l = ((bl t).take j).flatMap (escB qO)) ∧ Hid (BU w.heap.size w.heap.size l wr) ∧ l.length ≤ 3 * j ∧ Below w.heap.size w wr) (fun i _ => t.size - (intOf i).toNat)
  case atStart => exact ⟨0, [], Nat.zero_le _, rfl, by show _ = _; simp, HN, by simp, HBX.out⟩
  case round =>
    obtain ⟨j, l, hj, rfl, HLS, HBU, hlz, hb⟩ := hrel
    by_cases hlt : j < t.size
    · have hlt' : (j : Int) < (t.size : Int) := by omega
      have HNX := Lib.hid (flat_take (escB qO) (bl t) j (by rw [← bl_size]; exact hlt))
      rw [bl_get t j hlt] at HNX
      have HC := Lib.hid (byteText_any t[j] ⟨#[92, 34]⟩ qO wr rfl (by decide))
      go_wp2_with fail
      refine HC.out.mono ?_
      rintro e w2 ⟨s, rfl, hs, hb2⟩
      have hsz : s.size ≤ 3 := by rw [bl_size, hs]; exact (escB_len _ _).2
      have HS := Lib.hid hs
      have hb' : Below w.heap.size w w2 := hb.trans (hb2.mono hb.size)
      have HCW := Lib.hid (BU.write w.heap.size w.heap.size l s w2 (HBU.out.keep hb2) (by omega) hb'.size)
      clear hs hb hb2 HC
      go_wp2_with fail
      refine HCW.out.mono ?_
      rintro e w3 ⟨rfl, hbu, hb3⟩
      have hb4 : Below w.heap.size w w3 := hb'.trans hb3
      have HBU3 := Lib.hid hbu
      clear hb' hb3 hbu HCW
      go_wp2
      go_roundw
      case rel =>
        refine ⟨j + 1, l ++ bl s, by omega, by go_num, ?_, HBU3, ?_, hb4⟩
        · show _ = _
          rw [HLS.out, HS.out, HNX.out]
        · rw [List.length_append, ← bl_size]; omega
      case measure => simp [intOf]; omega
    · have hlt' : ¬ (j : Int) < (t.size : Int) := by omega
      have HT : Hid (l = (bl t).flatMap (escB qO)) := by
        show _ = _
        rw [HLS.out, List.take_of_length_le (by rw [← bl_size]; omega)]
      have HCS := Lib.hid (BU.string w.heap.size w.heap.size l wr HBU.out hb.size)
      clear HLS
      go_wp2_with fail
      refine HCS.out.mono ?_
      rintro e w3 ⟨rfl, hb3⟩
      have hb4 := Lib.hid (hb.trans hb3)
      clear hb hb3 HCS
      go_wp2
      go_ret
      exact ⟨_, rfl, by rw [bl_mk, HT.out], hb4.out⟩

end Go.Proofs.YtkhcappjhefkjaaGreatDoor

