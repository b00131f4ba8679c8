/- The walk of the law FnVocFirst: it returns true for every code, and writes nothing that was there. -/
import Derived.Test.YtcanhkngikeeiaaD7
import Derived.Test.YtcanhkngikeeiaaL4
import Derived.Test.YtcanhkngikeeiaaL5
import Derived.Test.YtcanhkngikeeiaaL6
namespace Go.Proofs.Ytcanhkngikeeiaa
open Go.RowKit
set_option linter.unusedVariables false

theorem sz_up {ss : List ByteArray} (h : ∀ s ∈ ss, s.size ≤ 10) : ∀ s ∈ ss, s.size ≤ 1048576 := fun s hs => Nat.le_trans (h s hs) (by omega)

/-- What a law has in memory while it looks at a vocabulary in block V and at tokens. -/
structure LS (w0 : World) (V : Nat) (en : Int) (ss : List ByteArray) (A : Option Addr) (cap : Nat) (I : Option Addr) (out : List Int) (w : World) : Prop where
  v : Own w V 25 [.slice A ss.length cap, .int .i64 en]
  p : Row w A (strs ss)
  o : Row w I (ints out)
  b : Below w0.heap.size w0 w
section
variable {w0 w w' : World} {V : Nat} {en : Int} {ss : List ByteArray} {A : Option Addr} {cap : Nat} {I : Option Addr} {out : List Int}
theorem LS.keep (h : LS w0 V en ss A cap I out w) (hb : Below w.heap.size w w') : LS w0 V en ss A cap I out w' := ⟨h.v.keep hb, h.p.keep hb, h.o.keep hb, h.b.trans (hb.mono h.b.size)⟩
theorem LS.drewN (h : LS w0 V en ss A cap I out w) (n : Nat) : LS w0 V en ss A cap I out (w.drewN n) := ⟨h.v, h.p, h.o, below_drewN h.b n⟩
theorem LS.c0 (h : LS w0 V en ss A cap I out w) : w.cell? ⟨V, 0, none⟩ = some (.slice A ss.length cap) := by rw [h.v.cell]; rfl
theorem LS.c1 (h : LS w0 V en ss A cap I out w) : w.cell? ⟨V, 1, none⟩ = some (.int .i64 en) := by rw [h.v.cell]; rfl
end

set_option maxRecDepth 100000 in
set_option maxHeartbeats 2000000 in
theorem vocFirst_walk (C : Option Addr) (ccap : Nat) (zs : List Int) (w : World) (hrow : Row w C (byts zs)) (hz : zs.length ≤ maxLen) (hcap : zs.length ≤ ccap) (hzs : ∀ z ∈ zs, 0 ≤ z ∧ z ≤ 255) :
    Calls Try.prog 5 #[.slice C zs.length ccap] w (True_ w) := by
  have HR := Lib.hid hrow
  have HZ := Lib.hid hzs
  clear hrow hzs
  unfold maxLen at hz
  by_cases hbig : 1048576 < zs.length
  · have hbig' : (1048576 : Int) < (zs.length : Int) := by omega
    go_enter Try.func5, Try.ntmps5
    go_wp2
    go_ret
    exact ⟨rfl, Below.refl _ _⟩
  · have hbig' : ¬ (1048576 : Int) < (zs.length : Int) := by omega
    go_enter Try.func5, Try.ntmps5
    go_wp2_with fail
    refine (drawLong_any C ccap zs _ HR.out (by omega) hcap HZ.out).mono ?_
    rintro e w1 ⟨ss, en, A, cap, t, rfl, hl, hs, he0, he1, ht, hp, hb1⟩
    have HS := Lib.hid (sz_up hs)
    have hv1 := Own.new w1 25 #[.slice A ss.length cap, .int .i64 en]
    have hp1 := (own_row hp).alloc (.cells #[.slice A ss.length cap, .int .i64 en] 25)
    have hb1' := hb1.alloc hb1.size (.cells #[.slice A ss.length cap, .int .i64 en] 25)
    clear hp hb1 hs
    go_wp2_with fail
    refine (specLong_any _ _ ss en t _ hp1 (by omega) HS.out (by omega)).mono ?_
    rintro e w2 ⟨A2, cap2, rfl, ho2, hb2⟩
    have hv2 := hv1.keep hb2
    have hp2 := hp1.keep hb2
    have hb2' := hb1'.trans (hb2.mono hb1'.size)
    clear hv1 hp1 hb1' hb2
    have c0 : w2.cell? ⟨w1.heap.size, 0, none⟩ = some (.slice A ss.length cap) := by rw [hv2.cell]; rfl
    have c1 : w2.cell? ⟨w1.heap.size, 1, none⟩ = some (.int .i64 en) := by rw [hv2.cell]; rfl
    go_wp2_with fail
    refine (implLong_any _ _ ss en t _ hp2 (by omega) HS.out (by omega)).mono ?_
    rintro e w3 ⟨A3, cap3, rfl, ho3, hb3⟩
    have hv3 := hv2.keep hb3
    have hp3 := hp2.keep hb3
    have ho2' := own_row (own_keep ho2 hb3)
    have ho3' := own_row ho3
    have hb3' := hb2'.trans (hb3.mono hb2'.size)
    clear hv2 hp2 hb2' hb3 ho2 ho3 c0 c1
    rcases hR : vocLongR ss en t with _ | out
    · rw [hR] at ho2' ho3'
      simp only [Option.getD_none, Option.isSome_none, List.length_nil] at ho2' ho3' ⊢
      go_wp2_with fail
      refine (lfInts_same _ _ _ _ [] _ ho3' ho2' (by simp)).mono ?_
      rintro e w4 ⟨rfl, hb4⟩
      go_wp2_with fail
      refine (lfInts_same _ _ _ _ [] _ (ho3'.keep hb4) (ho2'.keep hb4) (by simp)).mono ?_
      rintro e w5 ⟨rfl, hb5⟩
      go_wp2
      go_ret
      have hb4' := hb3'.trans (hb4.mono hb3'.size)
      exact ⟨rfl, hb4'.trans (hb5.mono hb4'.size)⟩
    · rw [hR] at ho2' ho3'
      simp only [Option.getD_some, Option.isSome_some] at ho2' ho3' ⊢
      obtain ⟨hcut, hok, h60⟩ := vocLongR_cut hR
      have HC := Lib.hid hcut
      clear hR hcut
      go_wp2_with fail
      refine (lfInts_same _ _ _ _ out _ ho3' ho2' (by omega)).mono ?_
      rintro e w4 ⟨rfl, hb4⟩
      have HL := (LS.mk hv3 hp3 ho3' hb3').keep hb4
      clear hv3 hp3 ho3' ho2' hb3' hb4
      generalize w1.heap.size = V at HL ⊢
      go_wp2
      go_loopw [9] (fun i wr => ∃ k : Nat, k ≤ out.length ∧ i = .int .i64 k ∧ LS w V en ss A cap A3 out wr) (fun i _ => out.length - (intOf i).toNat)
      case atStart => exact ⟨0, Nat.zero_le _, rfl, HL⟩
      case round =>
        clear HL
        obtain ⟨k, hk, rfl, HL⟩ := hrel
        by_cases hlt : k < out.length
        · obtain ⟨b3, o3, rfl, hc3⟩ := HL.o.int hlt
          obtain ⟨x, hx, hxl, hxp, hxf⟩ := HC.out.first k hlt
          rw [hx] at hc3
          have HX := Lib.hid hx
          have HXF := Lib.hid hxf
          have HXP := Lib.hid hxp
          clear hx hxf hxp
          have hlt' : (k : Int) < (out.length : Int) := by omega
          rename World => W
          go_wp2
          go_loopw [10] (fun i wr => ∃ j : Nat, j ≤ x ∧ i = .int .i64 j ∧ LS w V en ss A cap (some ⟨b3, o3, none⟩) out wr) (fun i _ => x - (intOf i).toNat)
          case atStart => exact ⟨0, Nat.zero_le _, rfl, HL⟩
          case round =>
            clear HL hc3
            obtain ⟨j, hj, rfl, HL⟩ := hrel
            have hc3 : wr.cell? ⟨b3, o3 + k, none⟩ = some (.int .i64 x) := by
              obtain ⟨b4, o4, e4, h4⟩ := HL.o.int hlt
              injection e4 with e4; injection e4 with e5 e6; subst e5 e6
              rw [h4, HX.out]
            obtain ⟨b, off, rfl, hcx⟩ := HL.p.piece hxl
            have hxl' : (x : Int) < (ss.length : Int) := by omega
            have c0 := HL.c0
            have c1 := HL.c1
            by_cases hjx : j < x
            · have hjx' : (j : Int) < (x : Int) := by omega
              have hjl' : (j : Int) < (ss.length : Int) := by omega
              obtain ⟨b', off', e', hcj⟩ := HL.p.piece (show j < ss.length by omega)
              injection e' with e'; injection e' with e5 e6; subst e5 e6
              by_cases hje : (j : Int) = en
              · have hg : ((j : Int) != en) = false := by simpa using hje
                clear hje
                go_wp2
                go_quiet (fail)
                go_wp2
                go_roundw
                case rel => exact ⟨j + 1, by omega, by go_num, HL.drewN _⟩
                case measure => simp [intOf]; omega
              · have hg : ((j : Int) != en) = true := by simpa using hje
                have hne := str_ne (HXF.out j hjx hje)
                clear hje
                go_wp2
                go_quiet (fail)
                go_wp2
                go_roundw
                case rel => exact ⟨j + 1, by omega, by go_num, HL.drewN _⟩
                case measure => simp [intOf]; omega
            · have hjx' : ¬ (j : Int) < (x : Int) := by omega
              have hp := HXP.out
              unfold plainB at hp
              simp only [Bool.and_eq_true, bne_iff_ne, ne_eq, decide_eq_true_eq] at hp
              have hg : ((x : Int) == en) = false := by rw [beq_eq_false_iff_ne]; exact hp.1
              have hg2 : (((pieceAt ss x).size : Int) == 0) = false := by rw [beq_eq_false_iff_ne]; omega
              clear hp
              go_wp2
              go_quiet (fail)
              go_wp2
              go_roundw
              case rel => exact ⟨k + 1, by omega, by go_num, HL.drewN _⟩
              case measure => simp [intOf]; omega
        · have hlt' : ¬ (k : Int) < (out.length : Int) := by omega
          go_wp2
          go_ret
          exact ⟨rfl, HL.b⟩

end Go.Proofs.Ytcanhkngikeeiaa
