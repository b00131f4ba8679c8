/- What impl.VocText does. -/
import Derived.Test.YtcanhkngikeeiaaT2
namespace Go.Proofs.Ytcanhkngikeeiaa
open Go.RowKit
set_option linter.unusedVariables false

theorem cells_app (t s : ByteArray) : Lib.byteCells t.data.toList ++ Lib.strCells s = Lib.byteCells (t ++ s).data.toList := by
  simp [Lib.byteCells, Lib.strCells]
theorem back (t : ByteArray) : (⟨t.data.toList.toArray⟩ : ByteArray) = t := by cases t; simp
theorem cells_len (t : ByteArray) : (Lib.byteCells t.data.toList).length = t.size := by rw [Lib.byteCells_length, Array.length_toList]; rfl

set_option maxRecDepth 100000 in
set_option maxHeartbeats 2000000 in
theorem implText_any (a : Option Addr) (c : Nat) (ss : List ByteArray) (en : Int) (I : Option Addr) (ic : Nat) (ids : List Int) (w : World) (hr : Row w a (strs ss)) (hi : Row w I (ints ids)) (hm : ss.length ≤ 1048576) (hl : ids.length ≤ 1048576) :
    Calls Try.prog 21 #[.agg #[.slice a ss.length c, .int .i64 en], .slice I ids.length ic] w (TextAns ss en ids w) := by
  have HR := Lib.hid hr
  have HI := Lib.hid hi
  clear hr hi
  cases hok : vocOkB ss en
  · have HN := Lib.hid (show vocTextR ss en ids = none by simp [vocTextR, hok])
    go_enter Try.func21, Try.ntmps21
    go_wp2_with (go_at_call 22; refine (implOk_any _ _ ss en _ (HR.out.alloc _) hm).mono ?_; rintro e w1 ⟨rfl, hb1⟩)
    go_ret2
    exact TextAns.no HN.out rfl ((below_box _).trans (hb1.mono (by simp)))
  · by_cases h60 : 60 < ids.length
    · have h60' : (60 : Int) < (ids.length : Int) := by omega
      have HN := Lib.hid (show vocTextR ss en ids = none by unfold vocTextR; rw [if_neg (by omega)])
      go_enter Try.func21, Try.ntmps21
      go_wp2_with (go_at_call 22; refine (implOk_any _ _ ss en _ (HR.out.alloc _) hm).mono ?_; rintro e w1 ⟨rfl, hb1⟩)
      go_ret2
      exact TextAns.no HN.out rfl ((below_box _).trans (hb1.mono (by simp)))
    · have h60' : ¬ (60 : Int) < (ids.length : Int) := by omega
      have HN := Lib.hid (show vocTextR ss en ids = textGo ss en ids ⟨#[]⟩ by unfold vocTextR; rw [if_pos ⟨hok, by omega⟩])
      have hsm := ok_small hok
      have HSM := Lib.hid hsm.2
      have h40 := hsm.1
      clear hsm
      go_enter Try.func21, Try.ntmps21
      go_wp2_with (go_at_call 22; refine (implOk_any _ _ ss en _ (HR.out.alloc _) hm).mono ?_; rintro e w1 ⟨rfl, hb1⟩)
      have hB := Lib.hid hb1
      have hs1 : w.heap.size + 1 ≤ w1.heap.size := by have := hb1.size; simpa using this
      clear hb1
      go_loopw [19] (fun i wr => ∃ (t : ByteArray) (k : Nat), i = .int .i64 k ∧ k ≤ ids.length ∧ t.size ≤ 6 * k ∧ Below w1.heap.size w1 wr ∧ Lib.IsBuilder 71 5 w1.heap.size w1.heap.size (Lib.byteCells t.data.toList) wr ∧
          Hid (textGo ss en (ids.drop k) t = textGo ss en ids ⟨#[]⟩)) (fun i _ => ids.length - (intOf i).toNat)
      case atStart => exact ⟨⟨#[]⟩, 0, rfl, Nat.zero_le _, by show 0 ≤ _; omega, below_box _, Lib.fresh_isBuilder 71 5 w1, rfl⟩
      case round =>
        obtain ⟨t, k, rfl, hk, ht, hb, hbu, hgo⟩ := hrel
        have hb1 : Below w.heap.size w w1 := (below_box _).trans (hB.out.mono (by simp))
        have hb0 : Below w.heap.size w wr := hb1.trans (hb.mono (by omega))
        have h0 : wr.cell? ⟨w.heap.size, 0, none⟩ = some (.slice a ss.length c) := (hb.cell (by simp; omega)).trans (cell_keep hB.out (by simp))
        have h1 : wr.cell? ⟨w.heap.size, 1, none⟩ = some (.int .i64 en) := (hb.cell (by simp; omega)).trans (cell_keep hB.out (by simp))
        have HBU := Lib.hid hbu
        clear hbu hb1
        by_cases hlt : k < ids.length
        · have hlt' : (k : Int) < (ids.length : Int) := by omega
          obtain ⟨bi, oi, rfl, hci⟩ := (HI.out.keep hb0).int hlt
          have hst := textGo_at (ss := ss) (en := en) hlt t
          rw [hgo.out] at hst
          obtain ⟨x, hx⟩ : ∃ x, ids[k] = x := ⟨_, rfl⟩
          rw [hx] at hci hst
          clear hx
          by_cases hx0 : x < 0
          · have HF : Hid (textGo ss en ids ⟨#[]⟩ = none) := by
              unfold Hid; rw [hst, if_neg (by omega)]
            clear hst
            go_wp2
            go_ret2
            exact TextAns.no (HN.out.trans HF.out) rfl hb0
          · by_cases hx1 : (ss.length : Int) ≤ x
            · have HF : Hid (textGo ss en ids ⟨#[]⟩ = none) := by
                unfold Hid; rw [hst, if_neg (by omega)]
              clear hst
              go_wp2
              go_ret2
              exact TextAns.no (HN.out.trans HF.out) rfl hb0
            · have hr2 : 0 ≤ x ∧ x < ss.length := by omega
              obtain ⟨xn, rfl⟩ : ∃ xn : Nat, x = xn := ⟨x.toNat, by omega⟩
              have hxl : xn < ss.length := by omega
              have hxl' : (xn : Int) < (ss.length : Int) := by omega
              rw [if_pos hr2] at hst
              obtain ⟨b, off, rfl, hc⟩ := (HR.out.keep hb0).piece hxl
              have hsz := HSM.out xn
              by_cases hxe : (xn : Int) = en
              · have hne : ((xn : Int) != en) = false := by simpa using hxe
                have HF : Hid (textGo ss en (ids.drop (k + 1)) t = textGo ss en ids ⟨#[]⟩) := by
                  unfold Hid; rw [hst, if_pos hxe]
                clear hst hxe
                go_wp2
                go_roundw
                case rel => exact ⟨t, k + 1, by go_num, by omega, by omega, hb, HBU.out, HF⟩
                case measure => simp [intOf]; omega
              · have hne : ((xn : Int) != en) = true := by simpa using hxe
                have HF : Hid (textGo ss en (ids.drop (k + 1)) (t ++ pieceAt ss xn) = textGo ss en ids ⟨#[]⟩) := by
                  unfold Hid; rw [hst, if_neg hxe]; simp
                clear hst hxe
                go_wp2_with fail
                refine (bWrite w1.heap.size w1.heap.size _ (pieceAt ss xn) _ HBU.out (by rw [cells_len]; omega) hb.size).mono ?_
                rintro e w3 ⟨rfl, hbu3, hb3⟩
                rw [cells_app] at hbu3
                have HB3 := Lib.hid hbu3
                clear hbu3
                go_wp2
                go_roundw
                case rel => exact ⟨t ++ pieceAt ss xn, k + 1, by go_num, by omega, by rw [ByteArray.size_append]; omega, hb.trans hb3, .inr HB3.out, HF⟩
                case measure => simp [intOf]; omega
        · have hlt' : ¬ (k : Int) < (ids.length : Int) := by omega
          go_wp2_with fail
          refine (bString w1.heap.size w1.heap.size t.data.toList _ HBU.out hb.size).mono ?_
          rintro e w3 ⟨rfl, hb3⟩
          go_wp2
          go_ret2
          have hkk : k = ids.length := by omega
          subst hkk
          have := hgo.out
          rw [List.drop_length, textGo] at this
          exact TextAns.yes (HN.out.trans this.symm) (by rw [back]; rfl) (hb0.trans (hb3.mono (by omega)))

end Go.Proofs.Ytcanhkngikeeiaa
