/- What toVoc, eqStringS and eqVoc do. Each: for every input. -/
import Derived.Test.YtcanhkngikeeiaaW3
namespace Go.Proofs.Ytcanhkngikeeiaa
open Go.RowKit
set_option linter.unusedVariables false

/-- A new vocabulary. -/
def NewVoc (ss : List ByteArray) (en : Int) (w : World) (e : Ending) (w' : World) : Prop :=
  ∃ g, e = .returned (.agg #[.slice (some ⟨g, 0, none⟩) ss.length ss.length, .int .i64 en]) ∧ w.heap.size ≤ g ∧ Own w' g 9 (strs ss) ∧ Below w.heap.size w w'

theorem bcell {W w1 : World} (hb : Below W.heap.size W w1) : (∀ b o, b < W.heap.size → w1.cell? ⟨b, o, none⟩ = W.cell? ⟨b, o, none⟩) ∧ (∀ b o, b < W.heap.size → w1.frozen? ⟨b, o, none⟩ = W.frozen? ⟨b, o, none⟩) :=
  ⟨fun b o h => hb.cell (p := ⟨b, o, none⟩) h, fun b o h => hb.frozen (p := ⟨b, o, none⟩) h⟩

set_option maxHeartbeats 400000 in
theorem toVoc_any (a : Option Addr) (c : Nat) (ss : List ByteArray) (en : Int) (w : World) (hr : Row w a (strs ss)) (hm : ss.length ≤ 1048576) :
    Calls Try.prog 37 #[.agg #[.slice a ss.length c, .int .i64 en]] w (NewVoc ss en w) := by
  have HR := Lib.hid hr
  clear hr
  go_enter Try.func37, Try.ntmps37
  go_wp2_with fail
  refine (toS_any a c ss _ (HR.out.keep (((below_box _).alloc (by simp) _).alloc (by simp; omega) _)) hm).mono ?_
  rintro e w1 ⟨g, rfl, hg, hown, hb⟩
  obtain ⟨hc1, hf1⟩ := bcell hb
  have hz : w.heap.size + 3 ≤ w1.heap.size := by have := hb.size; simpa using this
  simp at hg
  have hz0 : w.heap.size < w1.heap.size := by omega
  have hz1 : w.heap.size + 1 < w1.heap.size := by omega
  have hz2 : w.heap.size + 2 < w1.heap.size := by omega
  go_wp2
  refine bodyPost_ret (v := .agg #[.slice (some ⟨g, 0, none⟩) ss.length ss.length, .int .i64 en]) (by simp [results, Try.results37, go_sem, hc1]) rfl ⟨g, rfl, by omega, ?_, ?_⟩
  · exact (((hown.far (by simp; omega) _).far (by simp; omega) _).far (by simp; omega) _).far (by simp; omega) _
  · have hb0 : Below w.heap.size w w1 := ((((below_box _).alloc (by simp) _).alloc (by simp; omega) _).trans (hb.mono (by simp; omega)))
    exact (((hb0.setCell (by simp; omega) _).setCell (by simp; omega) _).setCell (by simp) _).setCell (by simp) _

/-- Two lists of strings. -/
def eqS (ss tt : List ByteArray) : Bool := decide (ss = tt)

theorem eqS_len {ss tt : List ByteArray} (h : ss.length ≠ tt.length) : eqS ss tt = false := by
  unfold eqS; rw [decide_eq_false_iff_not]; intro e; exact h (by rw [e])
theorem eqS_at {ss tt : List ByteArray} (k : Nat) (h1 : k < ss.length) (h2 : k < tt.length) (h : ss[k] ≠ tt[k]) : eqS ss tt = false := by
  unfold eqS; rw [decide_eq_false_iff_not]; intro e; subst e; exact h rfl
theorem eqS_all {ss tt : List ByteArray} (hl : ss.length = tt.length) (h : ∀ j (h1 : j < ss.length) (h2 : j < tt.length), ss[j] = tt[j]) : eqS ss tt = true := by
  unfold eqS; rw [decide_eq_true_iff]; exact List.ext_getElem hl h
def SameTo (ss tt : List ByteArray) (k : Nat) : Prop := ∀ j, j < k → ∀ (h1 : j < ss.length) (h2 : j < tt.length), ss[j] = tt[j]

theorem below_drewN {B : Nat} {a w : World} (h : Below B a w) (n : Nat) : Below B a (w.drewN n) := ⟨h.os, h.tape, h.output, h.size, h.block⟩

set_option maxHeartbeats 400000 in
theorem eqS_any (a a' : Option Addr) (c c' : Nat) (ss tt : List ByteArray) (w : World) (hr : Row w a (strs ss)) (hr' : Row w a' (strs tt)) (hm : ss.length ≤ 1048576) (hm' : tt.length ≤ 1048576) :
    Calls Try.prog 72 #[.slice a ss.length c, .slice a' tt.length c'] w fun e w' => e = .returned (.bool (eqS ss tt)) ∧ Below w.heap.size w w' := by
  have HR := Lib.hid hr
  have HR' := Lib.hid hr'
  clear hr hr'
  by_cases hl : ss.length = tt.length
  · have hl1 : ((ss.length : Int) != (tt.length : Int)) = false := by simp [hl]
    have HL := Lib.hid hl
    have hle : tt.length ≤ ss.length := by omega
    have hle2 : ss.length ≤ tt.length := by omega
    clear hl
    go_enter Try.func72, Try.ntmps72
    go_wp2
    clear hl1
    go_loopw [5] (fun i wr => ∃ k : Nat, k ≤ ss.length ∧ i = .int .i64 k ∧ Hid (SameTo ss tt k) ∧ Below w.heap.size w wr) (fun i _ => ss.length - (intOf i).toNat)
    case atStart => exact ⟨0, Nat.zero_le _, rfl, fun j hj => by omega, Below.refl _ _⟩
    case round =>
      obtain ⟨k, hk, rfl, hsame, hb⟩ := hrel
      by_cases hlt : k < ss.length
      · obtain ⟨b, off, rfl, hc⟩ := (HR.out.keep hb).str hlt
        obtain ⟨b', off', rfl, hc'⟩ := (HR'.out.keep hb).str (show k < tt.length by omega)
        have hk1 : (k : Int) < (ss.length : Int) := by omega
        have hk2 : (k : Int) < (tt.length : Int) := by omega
        by_cases heq : ss[k] = tt[k]
        · go_wp2
          go_quiet (fail)
          go_wp2
          go_roundw
          case rel => exact ⟨k + 1, by omega, by go_num, fun j hj h1 h2 => by
            rcases Nat.lt_succ_iff_lt_or_eq.1 hj with h3 | h3
            · exact hsame j h3 h1 h2
            · subst h3; exact heq, below_drewN hb _⟩
          case measure => simp [intOf]; omega
        · have hne := str_ne heq
          go_wp2
          go_quiet (fail)
          go_wp2
          go_ret
          exact ⟨ret_bool (eqS_at k hlt (by omega) heq).symm, below_drewN hb _⟩
      · go_wp2
        go_ret
        exact ⟨ret_bool (eqS_all HL.out (fun j h1 h2 => hsame j (by omega) h1 h2)).symm, hb⟩
  · have hl1 : ((ss.length : Int) != (tt.length : Int)) = true := by simp; omega
    go_enter Try.func72, Try.ntmps72
    go_wp2
    go_ret
    exact ⟨ret_bool (eqS_len hl).symm, Below.refl _ _⟩


set_option maxHeartbeats 400000 in
theorem eqVoc_any (a a' : Option Addr) (c c' : Nat) (ss tt : List ByteArray) (en en' : Int) (w : World) (hr : Row w a (strs ss)) (hr' : Row w a' (strs tt)) (hm : ss.length ≤ 1048576) (hm' : tt.length ≤ 1048576) :
    Calls Try.prog 38 #[.agg #[.slice a ss.length c, .int .i64 en], .agg #[.slice a' tt.length c', .int .i64 en']] w fun e w' => e = .returned (.bool (eqS ss tt && decide (en = en'))) ∧ Below w.heap.size w w' := by
  have HR := Lib.hid hr
  have HR' := Lib.hid hr'
  clear hr hr'
  go_enter Try.func38, Try.ntmps38
  go_wp2_with fail
  refine (eqS_any a a' c c' ss tt _ (HR.out.keep ((below_box _).alloc (by simp) _)) (HR'.out.keep ((below_box _).alloc (by simp) _)) hm hm').mono ?_
  rintro e w1 ⟨rfl, hb⟩
  obtain ⟨hc1, hf1⟩ := bcell hb
  have hz : w.heap.size + 2 ≤ w1.heap.size := by have := hb.size; simpa using this
  have hz0 : w.heap.size < w1.heap.size := by omega
  have hz1 : w.heap.size + 1 < w1.heap.size := by omega
  have hb0 : Below w.heap.size w w1 := ((below_box _).alloc (by simp) _).trans (hb.mono (by simp; omega))
  cases hE : eqS ss tt
  · go_wp2
    go_ret
    exact ⟨ret_bool (by simp [hE]), hb0⟩
  · by_cases he : en = en'
    · have he1 : (en != en') = false := by simpa using he
      have HE := Lib.hid he
      clear he
      go_wp2
      go_ret
      exact ⟨ret_bool (by simp [HE.out, hE]), hb0⟩
    · have he1 : (en != en') = true := by simpa using he
      go_wp2
      go_ret
      exact ⟨ret_bool (by simp [he]), hb0⟩

theorem eqVoc_same (a a' : Option Addr) (c c' : Nat) (ss : List ByteArray) (en : Int) (w : World) (hr : Row w a (strs ss)) (hr' : Row w a' (strs ss)) (hm : ss.length ≤ 1048576) :
    Calls Try.prog 38 #[.agg #[.slice a ss.length c, .int .i64 en], .agg #[.slice a' ss.length c', .int .i64 en]] w fun e w' => e = .returned (.bool true) ∧ Below w.heap.size w w' :=
  (eqVoc_any a a' c c' ss ss en en w hr hr' hm hm).mono fun e w' ⟨he, hb⟩ => ⟨by rw [he]; simp [eqS], hb⟩

/-- A law's answer: true, and nothing that was there has turned. -/
def True_ (w : World) (e : Ending) (w' : World) : Prop := e = .returned (.bool true) ∧ Below w.heap.size w w'

end Go.Proofs.Ytcanhkngikeeiaa
