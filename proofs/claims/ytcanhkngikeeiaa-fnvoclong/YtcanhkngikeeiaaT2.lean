/- What spec.VocText and impl.VocText do: the same. -/
import Derived.Test.YtcanhkngikeeiaaT1
namespace Go.Proofs.Ytcanhkngikeeiaa
open Go.RowKit
set_option linter.unusedVariables false

/-- The text of tokens, token by token. -/
def textGo (ss : List ByteArray) (en : Int) : List Int → ByteArray → Option ByteArray
  | [], out => some out
  | x :: xs, out => if 0 ≤ x ∧ x < ss.length then textGo ss en xs (if x = en then out else out ++ pieceAt ss x.toNat) else none

/-- What VocText answers. -/
def vocTextR (ss : List ByteArray) (en : Int) (ids : List Int) : Option ByteArray := if vocOkB ss en = true ∧ ids.length ≤ 60 then textGo ss en ids ⟨#[]⟩ else none

def TextAns (ss : List ByteArray) (en : Int) (ids : List Int) (w : World) (e : Ending) (w' : World) : Prop :=
  e = .returned (.tuple #[.string ((vocTextR ss en ids).getD ⟨#[]⟩), .bool (vocTextR ss en ids).isSome]) ∧ Below w.heap.size w w'

theorem TextAns.no {ss : List ByteArray} {en : Int} {ids : List Int} {w w' : World} {e : Ending} (h : vocTextR ss en ids = none) (he : e = .returned (.tuple #[.string ⟨#[]⟩, .bool false])) (hb : Below w.heap.size w w') : TextAns ss en ids w e w' := by
  unfold TextAns; rw [h]; exact ⟨he, hb⟩
theorem TextAns.yes {ss : List ByteArray} {en : Int} {ids : List Int} {t : ByteArray} {w w' : World} {e : Ending} (h : vocTextR ss en ids = some t) (he : e = .returned (.tuple #[.string t, .bool true])) (hb : Below w.heap.size w w') : TextAns ss en ids w e w' := by
  unfold TextAns; rw [h]; exact ⟨he, hb⟩

theorem ok_small {ss : List ByteArray} {en : Int} (h : vocOkB ss en = true) : ss.length ≤ 40 ∧ ∀ k, (pieceAt ss k).size ≤ 6 := by
  unfold vocOkB at h
  simp only [Bool.and_eq_true, decide_eq_true_eq, Bool.not_eq_true'] at h
  refine ⟨h.1.1.1.2, fun k => ?_⟩
  unfold pieceAt
  rcases Nat.lt_or_ge k ss.length with hk | hk
  · simp only [List.getD_eq_getElem?_getD, List.getElem?_eq_getElem hk, Option.getD_some]
    have := List.any_eq_false.1 h.2 ss[k] (List.getElem_mem hk)
    unfold longB at this
    simp at this
    omega
  · simp [List.getD_eq_getElem?_getD, List.getElem?_eq_none hk]

theorem textGo_at {ss : List ByteArray} {en : Int} {ids : List Int} {k : Nat} (hk : k < ids.length) (out : ByteArray) :
    textGo ss en (ids.drop k) out = if 0 ≤ ids[k] ∧ ids[k] < ss.length then textGo ss en (ids.drop (k + 1)) (if ids[k] = en then out else out ++ pieceAt ss ids[k].toNat) else none := by
  rw [List.drop_eq_getElem_cons hk, textGo]

theorem quiet_left {P : Program} {f : FuncId} {args : Array Value} {w : World} {n : Nat} {v : Value}
    (h : Calls P f args (w.drewN n) fun e w' => e = .returned v ∧ w.drewN n = w') : Calls P f args (w.drewN n) fun e w'' => e = .returned v ∧ ∃ m, w'' = w.drewN m :=
  h.mono fun _ _ ⟨he, hm⟩ => ⟨he, n, hm.symm⟩

set_option maxRecDepth 100000 in
set_option maxHeartbeats 2000000 in
theorem specText_any (a : Option Addr) (c : Nat) (ss : List ByteArray) (en : Int) (I : Option Addr) (ic : Nat) (ids : List Int) (w : World) (hr : Row w a (strs ss)) (hi : Row w I (ints ids)) (hm : ss.length ≤ 1048576) (hl : ids.length ≤ 1048576) :
    Calls Try.prog 20 #[.agg #[.slice a ss.length c, .int .i64 en], .slice I ids.length ic] w (TextAns ss en ids w) := by
  have HR := Lib.hid hr
  have HI := Lib.hid hi
  clear hr hi
  cases hok : vocOkB ss en
  · have HN := Lib.hid (show vocTextR ss en ids = none by simp [vocTextR, hok])
    go_enter Try.func20, Try.ntmps20
    go_wp2_with (go_at_call 23; refine (specOk_any _ _ ss en _ (HR.out.alloc _) hm).mono ?_; rintro e w1 ⟨rfl, hb1⟩)
    go_ret2
    exact TextAns.no HN.out rfl ((below_box _).trans (hb1.mono (by simp)))
  · by_cases h60 : 60 < ids.length
    · have h60' : (60 : Int) < (ids.length : Int) := by omega
      have HN := Lib.hid (show vocTextR ss en ids = none by unfold vocTextR; rw [if_neg (by omega)])
      go_enter Try.func20, Try.ntmps20
      go_wp2_with (go_at_call 23; refine (specOk_any _ _ ss en _ (HR.out.alloc _) hm).mono ?_; rintro e w1 ⟨rfl, hb1⟩)
      go_ret2
      exact TextAns.no HN.out rfl ((below_box _).trans (hb1.mono (by simp)))
    · have h60' : ¬ (60 : Int) < (ids.length : Int) := by omega
      have HN := Lib.hid (show vocTextR ss en ids = textGo ss en ids ⟨#[]⟩ by unfold vocTextR; rw [if_pos ⟨hok, by omega⟩])
      have hsm := ok_small hok
      have HSM := Lib.hid hsm.2
      have h40 := hsm.1
      clear hsm
      go_enter Try.func20, Try.ntmps20
      go_wp2_with (go_at_call 23; refine (specOk_any _ _ ss en _ (HR.out.alloc _) hm).mono ?_; rintro e w1 ⟨rfl, hb1⟩)
      have hB := Lib.hid hb1
      clear hb1
      go_loopw [6, 7] (fun o i wr => ∃ (t : ByteArray) (k : Nat), o = .string t ∧ i = .int .i64 k ∧ k ≤ ids.length ∧ t.size ≤ 6 * k ∧ Below (w.heap.size + 1) (w.alloc (.cells #[.slice a ss.length c, .int .i64 en] 25)) wr ∧
          Hid (textGo ss en (ids.drop k) t = textGo ss en ids ⟨#[]⟩)) (fun _ i _ => ids.length - (intOf i).toNat)
      case atStart => exact ⟨⟨#[]⟩, 0, rfl, rfl, Nat.zero_le _, by show 0 ≤ _; omega, by simpa using hB.out, rfl⟩
      case round =>
        obtain ⟨t, k, rfl, rfl, hk, ht, hb, hgo⟩ := hrel
        have hb0 : Below w.heap.size w wr := (below_box _).trans (hb.mono (by omega))
        have h0 : wr.cell? ⟨w.heap.size, 0, none⟩ = some (.slice a ss.length c) := (hb.cell (by simp)).trans (by simp)
        have h1 : wr.cell? ⟨w.heap.size, 1, none⟩ = some (.int .i64 en) := (hb.cell (by simp)).trans (by simp)
        by_cases hlt : k < ids.length
        · have hlt' : (k : Int) < (ids.length : Int) := by omega
          obtain ⟨bi, oi, rfl, hci⟩ := (HI.out.keep hb0).int hlt
          have hst := textGo_at (ss := ss) (en := en) hlt t
          rw [hgo.out] at hst
          obtain ⟨x, hx⟩ : ∃ x, ids[k] = x := ⟨_, rfl⟩
          rw [hx] at hci hst
          clear hx
          have hsub : IntKind.i64.wrap ((ss.length : Int) - 1) = (ss.length : Int) - 1 := IntWalk.i64_in _ (by omega)
          cases hin : inB x 0 ((ss.length : Int) - 1)
          · have HF : Hid (textGo ss en ids ⟨#[]⟩ = none) := by
              unfold Hid; rw [hst, if_neg]; unfold inB at hin; simp at hin; omega
            clear hst
            go_wp2
            go_quiet ((go_at_call 52; exact quiet_left (in_any _ _ _ _)))
            go_wp2
            go_ret2
            exact TextAns.no (HN.out.trans HF.out) rfl (below_drewN hb0 _)
          · have hr2 : 0 ≤ x ∧ x < ss.length := by unfold inB at hin; simp at hin; omega
            obtain ⟨xn, rfl⟩ : ∃ xn : Nat, x = xn := ⟨x.toNat, by omega⟩
            have hxl : xn < ss.length := by omega
            have hxl' : (xn : Int) < (ss.length : Int) := by omega
            rw [if_pos hr2] at hst
            obtain ⟨b, off, rfl, hc⟩ := (HR.out.keep hb0).piece hxl
            have hsz := HSM.out xn
            by_cases hxe : (xn : Int) = en
            · have hne : ((xn : Int) != en) = false := by simpa using hxe
              have HF : Hid (textGo ss en (ids.drop (k + 1)) t = textGo ss en ids ⟨#[]⟩) := by
                unfold Hid; rw [hst, if_pos hxe]
              clear hst hxe
              go_wp2
              go_quiet ((go_at_call 52; exact quiet_left (in_any _ _ _ _)))
              go_wp2
              go_quiet (fail)
              go_wp2
              go_roundw
              case rel => exact ⟨t, k + 1, rfl, by go_num, by omega, by omega, below_drewN hb _, HF⟩
              case measure => simp [intOf]; omega
            · have hne : ((xn : Int) != en) = true := by simpa using hxe
              have HF : Hid (textGo ss en (ids.drop (k + 1)) (t ++ pieceAt ss xn) = textGo ss en ids ⟨#[]⟩) := by
                unfold Hid; rw [hst, if_neg hxe]; simp
              clear hst hxe
              go_wp2
              go_quiet ((go_at_call 52; exact quiet_left (in_any _ _ _ _)))
              go_wp2
              go_quiet (fail)
              go_wp2
              go_quiet (fail)
              go_wp2
              go_roundw
              case rel => exact ⟨t ++ pieceAt ss xn, k + 1, rfl, by go_num, by omega, by rw [ByteArray.size_append]; omega, below_drewN hb _, HF⟩
              case measure => simp [intOf]; omega
        · have hlt' : ¬ (k : Int) < (ids.length : Int) := by omega
          go_wp2
          go_ret2
          have hkk : k = ids.length := by omega
          subst hkk
          have := hgo.out
          rw [List.drop_length, textGo] at this
          exact TextAns.yes (HN.out.trans this.symm) rfl hb0

end Go.Proofs.Ytcanhkngikeeiaa
