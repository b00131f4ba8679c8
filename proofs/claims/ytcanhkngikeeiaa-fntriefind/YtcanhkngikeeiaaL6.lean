/- What lfInts and eqIntS do: they compare ints. -/
import Derived.Test.YtcanhkngikeeiaaL3
namespace Go.Proofs.Ytcanhkngikeeiaa
open Go.RowKit
set_option linter.unusedVariables false

/-- Two lists of ints. -/
def eqI (ss tt : List Int) : Bool := decide (ss = tt)
theorem eqI_len {ss tt : List Int} (h : ss.length ≠ tt.length) : eqI ss tt = false := by
  unfold eqI; rw [decide_eq_false_iff_not]; intro e; exact h (by rw [e])
theorem eqI_at {ss tt : List Int} (k : Nat) (h1 : k < ss.length) (h2 : k < tt.length) (h : ss[k] ≠ tt[k]) : eqI ss tt = false := by
  unfold eqI; rw [decide_eq_false_iff_not]; intro e; subst e; exact h rfl
theorem eqI_all {ss tt : List Int} (hl : ss.length = tt.length) (h : ∀ j (h1 : j < ss.length) (h2 : j < tt.length), ss[j] = tt[j]) : eqI ss tt = true := by
  unfold eqI; rw [decide_eq_true_iff]; exact List.ext_getElem hl h
def SameI (ss tt : List Int) (k : Nat) : Prop := ∀ j, j < k → ∀ (h1 : j < ss.length) (h2 : j < tt.length), ss[j] = tt[j]

set_option maxHeartbeats 400000 in
theorem lfInts_any (a a' : Option Addr) (c c' : Nat) (ss tt : List Int) (w : World) (hr : Row w a (ints ss)) (hr' : Row w a' (ints tt)) (hm : ss.length ≤ 1048576) (hm' : tt.length ≤ 1048576) :
    Calls Try.prog 27 #[.slice a ss.length c, .slice a' tt.length c'] w fun e w' => e = .returned (.bool (eqI ss tt)) ∧ Below w.heap.size w w' := by
  have HR := Lib.hid hr
  have HR' := Lib.hid hr'
  clear hr hr'
  by_cases hl : ss.length = tt.length
  · have hl1 : ((ss.length : Int) != (tt.length : Int)) = false := by simp [hl]
    have HL := Lib.hid hl
    have hle : tt.length ≤ ss.length := by omega
    have hle2 : ss.length ≤ tt.length := by omega
    clear hl
    go_enter Try.func27, Try.ntmps27
    go_wp2
    clear hl1
    go_loopw [5] (fun i wr => ∃ k : Nat, k ≤ ss.length ∧ i = .int .i64 k ∧ Hid (SameI ss tt k) ∧ Below w.heap.size w wr) (fun i _ => ss.length - (intOf i).toNat)
    case atStart => exact ⟨0, Nat.zero_le _, rfl, fun j hj => by omega, Below.refl _ _⟩
    case round =>
      obtain ⟨k, hk, rfl, hsame, hb⟩ := hrel
      by_cases hlt : k < ss.length
      · obtain ⟨b, off, rfl, hc⟩ := (HR.out.keep hb).int hlt
        obtain ⟨b', off', rfl, hc'⟩ := (HR'.out.keep hb).int (show k < tt.length by omega)
        have hk1 : (k : Int) < (ss.length : Int) := by omega
        have hk2 : (k : Int) < (tt.length : Int) := by omega
        by_cases heq : ss[k] = tt[k]
        · have HEQ := Lib.hid heq
          have hne : (ss[k] == tt[k]) = true := by simpa using heq
          have hne2 : (ss[k] != tt[k]) = false := by simpa using heq
          clear heq
          go_wp2
          go_quiet (fail)
          go_wp2
          go_roundw
          case rel => exact ⟨k + 1, by omega, by go_num, fun j hj h1 h2 => by
            rcases Nat.lt_succ_iff_lt_or_eq.1 hj with h3 | h3
            · exact hsame j h3 h1 h2
            · subst h3; exact HEQ.out, below_drewN hb _⟩
          case measure => simp [intOf]; omega
        · have hne : (ss[k] == tt[k]) = false := by simpa using heq
          have hne2 : (ss[k] != tt[k]) = true := by simpa using heq
          go_wp2
          go_quiet (fail)
          go_wp2
          go_ret
          exact ⟨ret_bool (eqI_at k hlt (by omega) heq).symm, below_drewN hb _⟩
      · go_wp2
        go_ret
        exact ⟨ret_bool (eqI_all HL.out (fun j h1 h2 => hsame j (by omega) h1 h2)).symm, hb⟩
  · have hl1 : ((ss.length : Int) != (tt.length : Int)) = true := by simp; omega
    go_enter Try.func27, Try.ntmps27
    go_wp2
    go_ret
    exact ⟨ret_bool (eqI_len hl).symm, Below.refl _ _⟩


theorem lfInts_same (a a' : Option Addr) (c c' : Nat) (zs : List Int) (w : World) (hr : Row w a (ints zs)) (hr' : Row w a' (ints zs)) (hm : zs.length ≤ 1048576) :
    Calls Try.prog 27 #[.slice a zs.length c, .slice a' zs.length c'] w fun e w' => e = .returned (.bool true) ∧ Below w.heap.size w w' :=
  (lfInts_any a a' c c' zs zs w hr hr' hm hm).mono fun e w' ⟨he, hb⟩ => ⟨by rw [he]; simp [eqI], hb⟩

set_option maxHeartbeats 400000 in
theorem eqIntS_any (a a' : Option Addr) (c c' : Nat) (ss tt : List Int) (w : World) (hr : Row w a (ints ss)) (hr' : Row w a' (ints tt)) (hm : ss.length ≤ 1048576) (hm' : tt.length ≤ 1048576) :
    Calls Try.prog 40 #[.slice a ss.length c, .slice a' tt.length c'] w fun e w' => e = .returned (.bool (eqI ss tt)) ∧ Below w.heap.size w w' := by
  have HR := Lib.hid hr
  have HR' := Lib.hid hr'
  clear hr hr'
  by_cases hl : ss.length = tt.length
  · have hl1 : ((ss.length : Int) != (tt.length : Int)) = false := by simp [hl]
    have HL := Lib.hid hl
    have hle : tt.length ≤ ss.length := by omega
    have hle2 : ss.length ≤ tt.length := by omega
    clear hl
    go_enter Try.func40, Try.ntmps40
    go_wp2
    clear hl1
    go_loopw [5] (fun i wr => ∃ k : Nat, k ≤ ss.length ∧ i = .int .i64 k ∧ Hid (SameI ss tt k) ∧ Below w.heap.size w wr) (fun i _ => ss.length - (intOf i).toNat)
    case atStart => exact ⟨0, Nat.zero_le _, rfl, fun j hj => by omega, Below.refl _ _⟩
    case round =>
      obtain ⟨k, hk, rfl, hsame, hb⟩ := hrel
      by_cases hlt : k < ss.length
      · obtain ⟨b, off, rfl, hc⟩ := (HR.out.keep hb).int hlt
        obtain ⟨b', off', rfl, hc'⟩ := (HR'.out.keep hb).int (show k < tt.length by omega)
        have hk1 : (k : Int) < (ss.length : Int) := by omega
        have hk2 : (k : Int) < (tt.length : Int) := by omega
        by_cases heq : ss[k] = tt[k]
        · have HEQ := Lib.hid heq
          have hne : (ss[k] == tt[k]) = true := by simpa using heq
          have hne2 : (ss[k] != tt[k]) = false := by simpa using heq
          clear heq
          go_wp2
          go_quiet (fail)
          go_wp2
          go_roundw
          case rel => exact ⟨k + 1, by omega, by go_num, fun j hj h1 h2 => by
            rcases Nat.lt_succ_iff_lt_or_eq.1 hj with h3 | h3
            · exact hsame j h3 h1 h2
            · subst h3; exact HEQ.out, below_drewN hb _⟩
          case measure => simp [intOf]; omega
        · have hne : (ss[k] == tt[k]) = false := by simpa using heq
          have hne2 : (ss[k] != tt[k]) = true := by simpa using heq
          go_wp2
          go_quiet (fail)
          go_wp2
          go_ret
          exact ⟨ret_bool (eqI_at k hlt (by omega) heq).symm, below_drewN hb _⟩
      · go_wp2
        go_ret
        exact ⟨ret_bool (eqI_all HL.out (fun j h1 h2 => hsame j (by omega) h1 h2)).symm, hb⟩
  · have hl1 : ((ss.length : Int) != (tt.length : Int)) = true := by simp; omega
    go_enter Try.func40, Try.ntmps40
    go_wp2
    go_ret
    exact ⟨ret_bool (eqI_len hl).symm, Below.refl _ _⟩


theorem eqIntS_same (a a' : Option Addr) (c c' : Nat) (zs : List Int) (w : World) (hr : Row w a (ints zs)) (hr' : Row w a' (ints zs)) (hm : zs.length ≤ 1048576) :
    Calls Try.prog 40 #[.slice a zs.length c, .slice a' zs.length c'] w fun e w' => e = .returned (.bool true) ∧ Below w.heap.size w w' :=
  (eqIntS_any a a' c c' zs zs w hr hr' hm hm).mono fun e w' ⟨he, hb⟩ => ⟨by rw [he]; simp [eqI], hb⟩

end Go.Proofs.Ytcanhkngikeeiaa
