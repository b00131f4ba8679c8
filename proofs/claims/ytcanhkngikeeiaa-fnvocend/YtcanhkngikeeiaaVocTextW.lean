/- The walk of the law FnVocText: it returns true for every code and every other slice, and writes nothing that was there. -/
import Derived.Test.YtcanhkngikeeiaaT4
import Derived.Test.YtcanhkngikeeiaaD8
import Derived.Test.YtcanhkngikeeiaaVocFirstW
namespace Go.Proofs.Ytcanhkngikeeiaa
open Go.RowKit
set_option linter.unusedVariables false

theorem Row.cut {w : World} {A : Option Addr} {zs : List Int} (h : Row w A (ints zs)) (k : Nat) : Row w A (ints (zs.take k)) := by
  have := h.take k
  simpa [ints, List.map_take] using this
theorem Row.from {w : World} {G : Nat} {zs : List Int} (h : Row w (some ⟨G, 0, none⟩) (ints zs)) (k : Nat) : Row w (some ⟨G, k, none⟩) (ints (zs.drop k)) := by
  rcases h with h | ⟨b, off, e, h⟩
  · left; simp [ints] at h ⊢; simp [h]
  · injection e with e; injection e with e1 e2; subst e1 e2
    refine .inr ⟨G, k, rfl, fun i hi => ?_⟩
    simp [ints] at hi
    have := h (k + i) (by simp [ints]; omega)
    rw [show 0 + (k + i) = k + i by omega] at this
    rw [this]
    simp [ints]
theorem LS.drew {w0 w : World} {V : Nat} {en : Int} {ss : List ByteArray} {A : Option Addr} {cap : Nat} {I : Option Addr} {out : List Int} (h : LS w0 V en ss A cap I out w) : LS w0 V en ss A cap I out w.drew := ⟨h.v, h.p, h.o, h.b.drew⟩

set_option maxRecDepth 100000 in
set_option maxHeartbeats 2000000 in
theorem vocText_walk (C : Option Addr) (ccap : Nat) (zs : List Int) (D : Option Addr) (dcap : Nat) (ys : List Int) (w : World) (hrow : Row w C (byts zs)) (hz : zs.length ≤ maxLen) (hcap : zs.length ≤ ccap) (hzs : ∀ z ∈ zs, 0 ≤ z ∧ z ≤ 255)
    (hrow2 : Row w D (byts ys)) (hz2 : ys.length ≤ maxLen) (hcap2 : ys.length ≤ dcap) (hys : ∀ z ∈ ys, 0 ≤ z ∧ z ≤ 255) :
    Calls Try.prog 3 #[.slice C zs.length ccap, .slice D ys.length dcap] w (True_ w) := by
  have HR := Lib.hid hrow
  have HZ := Lib.hid hzs
  clear hrow hzs hrow2 hys
  unfold maxLen at hz hz2
  by_cases hbig : 1048576 < zs.length
  · have hbig' : (1048576 : Int) < (zs.length : Int) := by omega
    go_enter Try.func3, Try.ntmps3
    go_wp2
    go_ret
    exact ⟨rfl, Below.refl _ _⟩
  have hbig' : ¬ (1048576 : Int) < (zs.length : Int) := by omega
  by_cases hbig2 : 1048576 < ys.length
  · have hbig2' : (1048576 : Int) < (ys.length : Int) := by omega
    go_enter Try.func3, Try.ntmps3
    go_wp2
    go_ret
    exact ⟨rfl, Below.refl _ _⟩
  have hbig2' : ¬ (1048576 : Int) < (ys.length : Int) := by omega
  go_enter Try.func3, Try.ntmps3
  go_wp2_with fail
  refine (drawText_any C ccap zs _ HR.out (by omega) hcap HZ.out).mono ?_
  rintro e w1 ⟨ss, en, A, cap, ids, I, ic, rfl, hl, hs, he0, he1, hil, ⟨G, rfl⟩, hp, hi, hb1⟩
  have hv1 := Own.new w1 25 #[.slice A ss.length cap, .int .i64 en]
  have hic := own_cap hi
  have HL := LS.mk (w0 := w) (by simpa using hv1) ((own_row hp).alloc _) ((own_row hi).alloc _) (hb1.alloc hb1.size _)
  have HS := Lib.hid hs
  clear hv1 hp hi hb1 hs
  go_wp2_with fail
  refine (specText_any _ _ ss en _ _ ids _ HL.p HL.o (by omega) (by omega)).mono ?_
  rintro e w2 ⟨rfl, hb2⟩
  replace HL := HL.keep hb2
  clear hb2
  generalize w1.heap.size = V at HL ⊢
  have c0 := HL.c0
  have c1 := HL.c1
  go_wp2_with fail
  refine (implText_any _ _ ss en _ _ ids _ HL.p HL.o (by omega) (by omega)).mono ?_
  rintro e w3 ⟨rfl, hb3⟩
  replace HL := HL.keep hb3
  clear hb3 c0 c1
  have c0 := HL.c0
  have c1 := HL.c1
  generalize hR : vocTextR ss en ids = R
  have hsn : (((R.getD ⟨#[]⟩).toList != (R.getD ⟨#[]⟩).toList)) = false := by simp
  have hse : (((R.getD ⟨#[]⟩).toList == (R.getD ⟨#[]⟩).toList)) = true := by simp
  have hbn : (R.isSome != R.isSome) = false := by simp
  have hbe : (R.isSome == R.isSome) = true := by simp
  generalize hB : vocOkB ss en = B
  have HB := Lib.hid hB
  have HRR := Lib.hid hR
  clear hB hR
  have hvn : (B != B) = false := by simp
  have hve : (B == B) = true := by simp
  have H22 : Hid (∀ X, Row X A (strs ss) → Calls Try.prog 22 #[.agg #[.slice A ss.length cap, .int .i64 en]] X fun e X' => e = .returned (.bool B) ∧ Below X.heap.size X X') := Lib.hid (fun X h => by rw [← HB.out]; exact implOk_any A cap ss en X h (by omega))
  have H23 : Hid (∀ X, Row X A (strs ss) → Calls Try.prog 23 #[.agg #[.slice A ss.length cap, .int .i64 en]] X fun e X' => e = .returned (.bool B) ∧ Below X.heap.size X X') := Lib.hid (fun X h => by rw [← HB.out]; exact specOk_any A cap ss en X h (by omega))
  go_upto_region 6 with fail
  go_cut [59] (fun c wx => c = .bool (!R.isSome) ∧ LS w V en ss A cap (some ⟨G, 0, none⟩) ids wx)
  case first =>
    go_wp2
    go_region_held3 (fun X => X.cell? ⟨V, 0, none⟩ = some (.slice A ss.length cap) ∧ X.cell? ⟨V, 1, none⟩ = some (.int .i64 en))
      (first | exact ⟨HL5.c0, HL5.c1⟩ | exact ⟨HL4.c0, HL4.c1⟩ | exact ⟨c0, c1⟩)
      (first | (go_at_call 22; refine (H22.out _ HL.drew.p).mono ?_; rintro e w4 ⟨rfl, hb4⟩; have HL4 := HL.drew.keep hb4)
             | (go_at_call 23; refine (H23.out _ HL4.p).mono ?_; rintro e w5 ⟨rfl, hb5⟩; have HL5 := HL4.keep hb5))
    go_wp2_with fail
    go_meet
    exact ⟨by first | rfl | simp, HL5⟩
  case rest =>
    clear HL c0 c1
    obtain ⟨rfl, HL⟩ := hcut
    have c0 := HL.c0
    have c1 := HL.c1
    rcases R with _ | s
    · simp only [Option.getD_none, Option.isSome_none, Bool.not_false] at hsn hse hbn hbe ⊢
      go_wp2
      go_region_held3 (fun X => X.cell? ⟨V, 0, none⟩ = some (.slice A ss.length cap) ∧ X.cell? ⟨V, 1, none⟩ = some (.int .i64 en))
        (first | exact ⟨HL5.c0, HL5.c1⟩ | exact ⟨HL4.c0, HL4.c1⟩ | exact ⟨c0, c1⟩)
        (first | (go_at_call 22; refine (H22.out _ HL.drew.p).mono ?_; rintro e w4 ⟨rfl, hb4⟩; have HL4 := HL.drew.keep hb4)
               | (go_at_call 23; refine (H23.out _ HL4.p).mono ?_; rintro e w5 ⟨rfl, hb5⟩; have HL5 := HL4.keep hb5))
      go_wp2
      go_ret
      exact ⟨rfl, HL5.b⟩
    · simp only [Option.getD_some, Option.isSome_some, Bool.not_true] at hsn hse hbn hbe ⊢
      obtain ⟨k, hk⟩ : ∃ k, k = ys.length % (ids.length + 1) := ⟨_, rfl⟩
      have hkl : k ≤ ids.length := by have := Nat.mod_lt ys.length (show 0 < ids.length + 1 by omega); omega
      have hmod : (ys.length : Int) % ((ids.length : Int) + 1) = (k : Int) := by rw [hk]; norm_cast
      obtain ⟨ta, tb, hta, htb, hab⟩ := vocTextR_cut HRR.out k hkl
      have HA : Hid (∀ X, LS w V en ss A cap (some ⟨G, 0, none⟩) ids X → Calls Try.prog 21 #[.agg #[.slice A ss.length cap, .int .i64 en], .slice (some ⟨G, 0, none⟩) k ic] X fun e X' => e = .returned (.tuple #[.string ta, .bool true]) ∧ Below X.heap.size X X') := Lib.hid (fun X hX => by
        have := implText_any A cap ss en (some ⟨G, 0, none⟩) ic (ids.take k) X hX.p (hX.o.cut k) (by omega) (by simp; omega)
        rw [List.length_take, Nat.min_eq_left hkl] at this
        refine this.mono ?_
        unfold TextAns
        rw [hta]
        exact fun _ _ h => h)
      have hab' : (((ta ++ tb).toList == s.toList)) = true := by rw [hab]; simp
      have hsz1 := vocTextR_size HS.out hta
      have hsz2 := vocTextR_size HS.out htb
      clear hk
      have hk0 : (0 : Int) ≤ (k : Int) := by omega
      have hki : (k : Int) ≤ (ic : Int) := by omega
      have hkn : (k : Int) ≤ (ids.length : Int) := by omega
      go_wp2
      go_region_held3 (fun X => X.cell? ⟨V, 0, none⟩ = some (.slice A ss.length cap) ∧ X.cell? ⟨V, 1, none⟩ = some (.int .i64 en))
        (first | exact ⟨HL4.c0, HL4.c1⟩ | exact ⟨c0, c1⟩)
        (first | (go_at_call 21; refine (HA.out _ HL.drew).mono ?_; rintro e w4 ⟨rfl, hb4⟩; have HL4 := HL.drew.keep hb4))
      clear HL c0 c1 hb4 HA
      have c0 := HL4.c0
      have c1 := HL4.c1
      by_cases hik : ic = k
      · have HA : Hid (∀ X, LS w V en ss A cap (some ⟨G, 0, none⟩) ids X → Calls Try.prog 21 #[.agg #[.slice A ss.length cap, .int .i64 en], .slice (some ⟨G, 0, none⟩) (ids.length - k) 0] X fun e X' => e = .returned (.tuple #[.string tb, .bool true]) ∧ Below X.heap.size X X') := Lib.hid (fun X hX => by
          have hd : ids.drop k = [] := List.drop_eq_nil_of_le (by omega)
          have := implText_any A cap ss en (some ⟨G, 0, none⟩) 0 (ids.drop k) X hX.p (by rw [hd]; exact Or.inl rfl) (by omega) (by simp; omega)
          rw [List.length_drop] at this
          refine this.mono ?_
          unfold TextAns
          rw [htb]
          exact fun _ _ h => h)
        go_wp2
        go_region_held3 (fun X => X.cell? ⟨V, 0, none⟩ = some (.slice A ss.length cap) ∧ X.cell? ⟨V, 1, none⟩ = some (.int .i64 en))
          (first | exact ⟨HL5.c0, HL5.c1⟩ | exact ⟨c0, c1⟩)
          (first | (go_at_call 21; refine (HA.out _ HL4.drew).mono ?_; rintro e w5 ⟨rfl, hb5⟩; have HL5 := HL4.drew.keep hb5))
        go_wp2
        go_ret
        exact ⟨rfl, HL5.b⟩
      · have HA : Hid (∀ X, LS w V en ss A cap (some ⟨G, 0, none⟩) ids X → Calls Try.prog 21 #[.agg #[.slice A ss.length cap, .int .i64 en], .slice (some ⟨G, k, none⟩) (ids.length - k) (ic - k)] X fun e X' => e = .returned (.tuple #[.string tb, .bool true]) ∧ Below X.heap.size X X') := Lib.hid (fun X hX => by
          have := implText_any A cap ss en (some ⟨G, k, none⟩) (ic - k) (ids.drop k) X hX.p (hX.o.from k) (by omega) (by simp; omega)
          rw [List.length_drop] at this
          refine this.mono ?_
          unfold TextAns
          rw [htb]
          exact fun _ _ h => h)
        go_wp2
        go_region_held3 (fun X => X.cell? ⟨V, 0, none⟩ = some (.slice A ss.length cap) ∧ X.cell? ⟨V, 1, none⟩ = some (.int .i64 en))
          (first | exact ⟨HL5.c0, HL5.c1⟩ | exact ⟨c0, c1⟩)
          (first | (go_at_call 21; refine (HA.out _ HL4.drew).mono ?_; rintro e w5 ⟨rfl, hb5⟩; have HL5 := HL4.drew.keep hb5))
        go_wp2
        go_ret
        exact ⟨rfl, HL5.b⟩

end Go.Proofs.Ytcanhkngikeeiaa
