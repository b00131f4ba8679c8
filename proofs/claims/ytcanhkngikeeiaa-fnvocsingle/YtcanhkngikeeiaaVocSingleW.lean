/- The walk of the law FnVocSingle: it returns true for every code, and writes nothing that was there. -/
import Derived.Test.YtcanhkngikeeiaaD7
import Derived.Test.YtcanhkngikeeiaaL4
import Derived.Test.YtcanhkngikeeiaaL6
import Derived.Test.YtcanhkngikeeiaaS1
import Derived.Test.YtcanhkngikeeiaaL5
namespace Go.Proofs.Ytcanhkngikeeiaa
open Go.RowKit
set_option linter.unusedVariables false

/-- Whether all bytes up to a place are such. -/
def OnesTo (t : ByteArray) (k : Nat) : Prop := ∀ j, j < k → ∀ h : j < t.size, isOne t[j] = true

theorem ones_all {t : ByteArray} (h : OnesTo t t.size) : ∀ c ∈ t.toList, isOne c = true := by
  intro c hc
  rw [ByteArray.toList_eq] at hc
  obtain ⟨j, hj, rfl⟩ := List.getElem_of_mem hc
  exact h j (by simpa using hj) (by simpa using hj)
theorem ones_not {t : ByteArray} {j : Nat} (hj : j < t.size) (h : isOne t[j] = false) : ∃ c ∈ t.toList, isOne c = false := by
  refine ⟨t[j], ?_, h⟩
  rw [ByteArray.toList_eq]
  exact List.getElem_mem (l := t.data.toList) (by simpa using hj)

theorem ss4_small : ∀ s ∈ ss4, s.size ≤ 1048576 := by intro s hs; simp [ss4] at hs; rcases hs with rfl | rfl | rfl | rfl <;> (show _ ≤ _; decide)

theorem ss4_row (w : World) : Row (w.alloc (.cells #[.string ⟨#[98]⟩, .string ⟨#[97]⟩, .string ⟨#[49]⟩, .string ⟨#[48]⟩] 9)) (some ⟨w.heap.size, 0, none⟩) (strs ss4) :=
  (Own.new w 9 #[.string ⟨#[98]⟩, .string ⟨#[97]⟩, .string ⟨#[49]⟩, .string ⟨#[48]⟩]).row

set_option maxRecDepth 100000 in
set_option maxHeartbeats 2000000 in
theorem vocSingle_walk (C : Option Addr) (ccap : Nat) (zs : List Int) (w : World) (hrow : Row w C (byts zs)) (hz : zs.length ≤ maxLen) (hcap : zs.length ≤ ccap) (hzs : ∀ z ∈ zs, 0 ≤ z ∧ z ≤ 255) :
    Calls Try.prog 6 #[.slice C zs.length ccap] w (True_ w) := by
  have HR := Lib.hid hrow
  have HZ := Lib.hid hzs
  clear hrow hzs
  unfold maxLen at hz
  by_cases hbig : 1048576 < zs.length
  · have hbig' : (1048576 : Int) < (zs.length : Int) := by omega
    go_enter Try.func6, Try.ntmps6
    go_wp2
    go_ret
    exact ⟨rfl, Below.refl _ _⟩
  · have hbig' : ¬ (1048576 : Int) < (zs.length : Int) := by omega
    go_enter Try.func6, Try.ntmps6
    go_wp2_with fail
    refine (drawLong_any C ccap zs _ HR.out (by omega) hcap HZ.out).mono ?_
    rintro e w1 ⟨ss, en, A, cap, t, rfl, hl, hs, he0, he1, ht, hp, hb1⟩
    clear hp hs
    go_wp2_with fail
    have hp1 := ss4_row (w1.alloc (.cells #[.slice (some ⟨w1.heap.size + 1, 0, none⟩) 4 4, .int .i64 (-1)] 25))
    have hb1' := (hb1.alloc hb1.size (.cells #[.slice (some ⟨w1.heap.size + 1, 0, none⟩) 4 4, .int .i64 (-1)] 25)).alloc (by simp; have := hb1.size; omega) (.cells #[.string ⟨#[98]⟩, .string ⟨#[97]⟩, .string ⟨#[49]⟩, .string ⟨#[48]⟩] 9)
    have hv1 : Own ((w1.alloc (.cells #[.slice (some ⟨w1.heap.size + 1, 0, none⟩) 4 4, .int .i64 (-1)] 25)).alloc (.cells #[.string ⟨#[98]⟩, .string ⟨#[97]⟩, .string ⟨#[49]⟩, .string ⟨#[48]⟩] 9)) w1.heap.size 25 [.slice (some ⟨w1.heap.size + 1, 0, none⟩) 4 4, .int .i64 (-1)] :=
      (Own.new w1 25 #[.slice (some ⟨w1.heap.size + 1, 0, none⟩) 4 4, .int .i64 (-1)]).alloc _
    rw [show (w1.alloc (.cells #[.slice (some ⟨w1.heap.size + 1, 0, none⟩) 4 4, .int .i64 (-1)] 25)).heap.size = w1.heap.size + 1 by simp] at hp1
    refine (specLong_any _ _ ss4 (-1) t _ hp1 (by decide) ss4_small (by omega)).mono ?_
    rintro e w2 ⟨A2, cap2, rfl, ho2, hb2⟩
    have hv2 := hv1.keep hb2
    have hp2 := hp1.keep hb2
    have hb2' := hb1'.trans (hb2.mono (by have := hb1.size; simp; omega))
    clear hv1 hp1 hb1' hb2 hb1
    have c0 : w2.cell? ⟨w1.heap.size, 0, none⟩ = some (.slice (some ⟨w1.heap.size + 1, 0, none⟩) 4 4) := by rw [hv2.cell]; rfl
    have c1 : w2.cell? ⟨w1.heap.size, 1, none⟩ = some (.int .i64 (-1)) := by rw [hv2.cell]; rfl
    go_wp2_with fail
    refine (implLong_any _ _ ss4 (-1) t _ hp2 (by decide) ss4_small (by omega)).mono ?_
    rintro e w3 ⟨A3, cap3, rfl, ho3, hb3⟩
    have ho2' := own_row (own_keep ho2 hb3)
    have ho3' := own_row ho3
    have hb3' := hb2'.trans (hb3.mono hb2'.size)
    clear hv2 hp2 hb2' hb3 ho2 ho3 c0 c1
    have hlen : ((vocLongR ss4 (-1) t).getD []).length ≤ 60 := by
      rcases hR : vocLongR ss4 (-1) t with _ | out
      · simp
      · have := (vocLongR_cut hR).2.2; simpa using this
    generalize hq : vocLongR ss4 (-1) t = R at *
    have HQ := Lib.hid hq
    clear hq
    go_wp2_with fail
    refine (lfInts_same _ _ _ _ (R.getD []) _ ho3' ho2' (by omega)).mono ?_
    rintro e w4 ⟨rfl, hb4⟩
    have hb4' := hb3'.trans (hb4.mono hb3'.size)
    clear ho3' ho2' hb3' hb4
    go_wp2
    go_loop [9] (fun i => ∃ k : Nat, k ≤ t.size ∧ i = .int .i64 k ∧ Hid (OnesTo t k)) (fun i => t.size - (intOf i).toNat)
    case atStart => exact ⟨0, Nat.zero_le _, rfl, fun j hj => by omega⟩
    case round =>
      obtain ⟨k, hk, rfl, hones⟩ := hrel
      by_cases hlt : k < t.size
      · have hlt' : (k : Int) < (t.size : Int) := by omega
        have hin : Hid (t[k].toNat = 97 ∨ t[k].toNat = 98 ∨ t[k].toNat = 48 ∨ t[k].toNat = 49 → OnesTo t (k + 1)) := fun h j hj h2 => by
          rcases Nat.lt_succ_iff_lt_or_eq.1 hj with h3 | h3
          · exact hones j h3 h2
          · subst h3; exact isOne_of h
        by_cases h97 : t[k].toNat = 97
        · have e97 : ((t[k].toNat : Int) != 97) = false := by simp [h97]
          have HN := Lib.hid (hin.out (.inl h97))
          clear h97
          go_wp2
          go_round
          case rel => exact ⟨k + 1, by omega, by go_num, HN.out⟩
          case measure => simp [intOf]; omega
        · have e97 : ((t[k].toNat : Int) != 97) = true := by rw [bne_iff_ne]; omega
          by_cases h98 : t[k].toNat = 98
          · have e98 : ((t[k].toNat : Int) != 98) = false := by simp [h98]
            have HN := Lib.hid (hin.out (.inr (.inl h98)))
            clear h98
            go_wp2
            go_round
            case rel => exact ⟨k + 1, by omega, by go_num, HN.out⟩
            case measure => simp [intOf]; omega
          · have e98 : ((t[k].toNat : Int) != 98) = true := by rw [bne_iff_ne]; omega
            by_cases h48 : t[k].toNat = 48
            · have e48 : ((t[k].toNat : Int) != 48) = false := by simp [h48]
              have HN := Lib.hid (hin.out (.inr (.inr (.inl h48))))
              clear h48
              go_wp2
              go_round
              case rel => exact ⟨k + 1, by omega, by go_num, HN.out⟩
              case measure => simp [intOf]; omega
            · have e48 : ((t[k].toNat : Int) != 48) = true := by rw [bne_iff_ne]; omega
              by_cases h49 : t[k].toNat = 49
              · have e49 : ((t[k].toNat : Int) != 49) = false := by simp [h49]
                have HN := Lib.hid (hin.out (.inr (.inr (.inr (h49)))))
                clear h49
                go_wp2
                go_round
                case rel => exact ⟨k + 1, by omega, by go_num, HN.out⟩
                case measure => simp [intOf]; omega
              · have e49 : ((t[k].toNat : Int) != 49) = true := by rw [bne_iff_ne]; omega
                have HF := Lib.hid (voc4_none (.inr (ones_not hlt (isOne_not ⟨h97, h98, h48, h49⟩))))
                obtain rfl : R = none := HQ.out.symm.trans HF.out
                clear h97 h98 h48 h49
                go_wp2
                go_ret
                exact ⟨rfl, hb4'⟩
      · have hlt' : ¬ (k : Int) < (t.size : Int) := by omega
        have hkk : k = t.size := by omega
        subst hkk
        have hall := ones_all hones.out
        by_cases h60 : t.size ≤ 60
        · have h60' : (t.size : Int) ≤ 60 := by omega
          obtain ⟨r, hr, hrl⟩ := voc4_all hall h60
          obtain rfl : R = some r := HQ.out.symm.trans hr
          have hle : ((r.length : Int) == (t.size : Int)) = true := by rw [beq_iff_eq]; omega
          clear hr hall
          have HRL := Lib.hid hrl
          clear hrl
          simp only [Option.isSome_some, Option.getD_some]
          go_wp2
          go_ret
          exact ⟨rfl, hb4'⟩
        · have h60' : ¬ (t.size : Int) ≤ 60 := by omega
          have HF := Lib.hid (voc4_none (t := t) (.inl (by omega)))
          obtain rfl : R = none := HQ.out.symm.trans HF.out
          clear hall
          go_wp2
          go_ret
          exact ⟨rfl, hb4'⟩

end Go.Proofs.Ytcanhkngikeeiaa
