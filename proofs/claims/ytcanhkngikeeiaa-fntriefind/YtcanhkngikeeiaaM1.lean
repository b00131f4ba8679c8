/- What markText, markStringS, markVoc, markIntS and heldIntS do. -/
import Derived.Test.YtcanhkngikeeiaaD5
import Derived.Test.YtcanhkngikeeiaaL6
namespace Go.Proofs.Ytcanhkngikeeiaa
open Go.RowKit
set_option linter.unusedVariables false

/-- Some text. -/
def SomeText (w : World) (e : Ending) (w' : World) : Prop := ∃ s : ByteArray, e = .returned (.string s) ∧ Below w.heap.size w w'

theorem conv_one (w : World) (X : Int) : (convert 22 9 (.slice (some ⟨w.heap.size, 0, none⟩) 1 1)).run Try.prog (w.alloc (.cells #[.int .u8 X] 5)) = .ok (.string (strOfNums [X])) (w.alloc (.cells #[.int .u8 X] 5)) :=
  run_convert_bytes_arg _ 22 5 Try.underlying22 Try.underlying5 w.heap.size 0 1 1 [X] rfl (fun i hi => by
    have : i = 0 := by omega
    subst this
    simp) 9 Try.underlying9

set_option maxRecDepth 100000 in
set_option maxHeartbeats 1000000 in
theorem markText_any (k : Int) (w : World) (hk0 : 1 ≤ k) (hk : k ≤ 3000000) : Calls Try.prog 86 #[.int .i64 k] w (SomeText w) := by
  have hk1 : ¬ k ≤ 0 := by omega
  go_enter Try.func86, Try.ntmps86
  go_wp2
  go_loopw [0, 3] (fun n o wr => ∃ (x : Nat) (t : ByteArray), n = .int .i64 x ∧ o = .string t ∧ t.size + x ≤ 3000000 ∧ Below w.heap.size w wr) (fun n _ _ => (intOf n).toNat)
  case atStart => exact ⟨k.toNat, ⟨#[]⟩, by go_num, rfl, by show 0 + _ ≤ _; omega, Below.refl _ _⟩
  case round =>
    obtain ⟨x, t, rfl, rfl, hx, hb⟩ := hrel
    by_cases hx0 : 0 < x
    · have hx1 : (0 : Int) < (x : Int) := by omega
      have hcv := conv_one wr
      have hsz1 : ∀ X : Int, (strOfNums [X]).size = 1 := fun X => strOfNums_size _
      go_wp2
      go_roundw
      case rel => exact ⟨x / 10, _, by go_num, rfl, by rw [ByteArray.size_append, strOfNums_size]; simp; omega, hb.alloc hb.size _⟩
      case measure => simp [intOf]; omega
    · have hx1 : ¬ (0 : Int) < (x : Int) := by omega
      go_wp2
      go_ret
      exact ⟨_, rfl, hb⟩

/-- Only one block of the call's reach has turned, and a number has come back. -/
def MarkPost (w : World) (g : Nat) (k : Int) (e : Ending) (w' : World) : Prop := e = .returned (.int .i64 k) ∧ w.grownBy w' (some g)

theorem only_store {a w : World} {g : Nat} (h : a.grownBy w (some g)) (i : Nat) (u : Value) : a.grownBy (w.setCell ⟨g, i, none⟩ u) (some g) :=
  ⟨h.os, h.tape, h.output, by simpa [World.setCell] using h.size, fun j hj hne => (Below.heap_setCell w _ u j (fun e => hne (by rw [e]))).trans (h.block j hj hne)⟩

set_option maxRecDepth 100000 in
set_option maxHeartbeats 1000000 in
theorem markS_any (g : Nat) (ss : List ByteArray) (k : Int) (w : World) (ho : Own w g 9 (strs ss)) (hm : ss.length ≤ 1048576) (hk0 : 1 ≤ k) (hk : k ≤ 1000) :
    Calls Try.prog 73 #[.slice (some ⟨g, 0, none⟩) ss.length ss.length, .int .i64 k] w (MarkPost w g (k + ss.length)) := by
  have HO := Lib.hid ho
  clear ho
  go_enter Try.func73, Try.ntmps73
  go_wp2
  go_loopw [1, 5] (fun n i wr => ∃ (j : Nat) (tt : List ByteArray), i = .int .i64 j ∧ n = .int .i64 (k + j) ∧ j ≤ ss.length ∧ Own wr g 9 (strs tt) ∧ tt.length = ss.length ∧ w.grownBy wr (some g)) (fun _ i _ => ss.length - (intOf i).toNat)
  case atStart => exact ⟨0, ss, rfl, by go_num, Nat.zero_le _, HO.out, rfl, only_of_below (Below.refl _ _) (Nat.le_refl _) _⟩
  case round =>
    obtain ⟨j, tt, rfl, rfl, hj, ho, hl, hg⟩ := hrel
    have HL := Lib.hid hl
    clear hl
    by_cases hlt : j < ss.length
    · have hlt' : (j : Int) < (ss.length : Int) := by omega
      go_wp2_with fail
      refine (markText_any _ _ (by omega) (by omega)).mono ?_
      rintro e w1 ⟨s, rfl, hb1⟩
      have ho1 := ho.keep hb1
      obtain ⟨v, hv⟩ : ∃ v, w1.cell? ⟨g, j, none⟩ = some v := ⟨_, ho1.cell_ (by simp; have := HL.out; omega)⟩
      have hf := ho1.frozen j
      have ho2 := ho1.set_ j (.string s)
      have hg2 := only_store (only_trans hg (only_of_below hb1 (Nat.le_refl _) _)) j (.string s)
      rw [show (strs tt).set j (.string s) = strs (tt.set j s) by simp [strs, List.map_set]] at ho2
      clear ho hb1 hg
      go_wp2
      go_roundw
      case rel => exact ⟨j + 1, tt.set j s, by go_num, by go_num, by omega, ho2, by simp [HL.out], hg2⟩
      case measure => simp [intOf]; omega
    · have hlt' : ¬ (j : Int) < (ss.length : Int) := by omega
      go_wp2
      go_ret
      have : j = ss.length := by omega
      subst this
      exact ⟨rfl, hg⟩

set_option maxHeartbeats 1000000 in
theorem markVoc_any (g : Nat) (ss : List ByteArray) (en k : Int) (w : World) (ho : Own w g 9 (strs ss)) (hm : ss.length ≤ 1048576) (hk0 : 1 ≤ k) (hk : k ≤ 1000) :
    Calls Try.prog 41 #[.agg #[.slice (some ⟨g, 0, none⟩) ss.length ss.length, .int .i64 en], .int .i64 k] w (MarkPost w g (k + ss.length)) := by
  have HO := Lib.hid ho
  clear ho
  go_enter Try.func41, Try.ntmps41
  go_wp2_with fail
  refine (markS_any g ss k _ (HO.out.alloc _) hm hk0 hk).mono ?_
  rintro e w1 ⟨rfl, hg⟩
  go_wp2
  go_ret
  exact ⟨rfl, only_trans (only_alloc (only_of_below (Below.refl _ _) (Nat.le_refl _) _) _) hg⟩

/-- The numbers from k on. -/
def marks (k : Int) (n : Nat) : List Int := (List.range n).map fun (i : Nat) => k + (i : Int)
@[simp] theorem marks_length (k : Int) (n : Nat) : (marks k n).length = n := by simp [marks]
theorem marks_at (k : Int) (n j : Nat) (h : j < (marks k n).length) : (marks k n)[j] = k + j := by simp [marks]
theorem marks_snoc (k : Int) (n : Nat) : marks k (n + 1) = marks k n ++ [k + n] := by simp [marks, List.range_succ]

/-- The marks are written into a row of the call's own. -/
def MarkIPost (w : World) (base : Nat) (A : Option Addr) (n cap : Nat) (k : Int) (e : Ending) (w' : World) : Prop :=
  e = .returned (.int .i64 (k + n)) ∧ w'.ownsRow base 3 1 (.slice A n cap) n (ints (marks k n)) ∧ w.grownBy w' (Value.slice A n cap).ownBlock

theorem ints_set {zs : List Int} {k : Int} {j : Nat} (hj : j < zs.length) : (ints (marks k j ++ zs.drop j)).set j (.int .i64 (k + j)) = ints (marks k (j + 1) ++ zs.drop (j + 1)) := by
  rw [marks_snoc, List.drop_eq_getElem_cons hj]
  unfold ints
  rw [← List.map_set, List.set_append_right _ _ (by simp), marks_length, Nat.sub_self, List.set_cons_zero, List.append_assoc]
  rfl

set_option maxRecDepth 100000 in
set_option maxHeartbeats 1000000 in
theorem markI_any (base : Nat) (A : Option Addr) (cap : Nat) (zs : List Int) (k : Int) (w : World) (ho : w.ownsRow base 3 1 (.slice A zs.length cap) zs.length (ints zs)) (hm : zs.length ≤ 1048576) (hk0 : 1 ≤ k) (hk : k ≤ 3000000) :
    Calls Try.prog 42 #[.slice A zs.length cap, .int .i64 k] w (MarkIPost w base A zs.length cap k) := by
  have HO := Lib.hid ho
  clear ho
  go_enter Try.func42, Try.ntmps42
  go_wp2
  go_loopw [1, 5] (fun n i wr => ∃ (j : Nat), i = .int .i64 j ∧ n = .int .i64 (k + j) ∧ j ≤ zs.length ∧ wr.ownsRow base 3 1 (.slice A zs.length cap) zs.length (ints (marks k j ++ zs.drop j)) ∧ w.grownBy wr (Value.slice A zs.length cap).ownBlock) (fun _ i _ => zs.length - (intOf i).toNat)
  case atStart => exact ⟨0, rfl, by go_num, Nat.zero_le _, by simpa [marks] using HO.out, World.grownBy.refl w _⟩
  case round =>
    obtain ⟨j, rfl, rfl, hj, ho, hg⟩ := hrel
    by_cases hlt : j < zs.length
    · have hlt' : (j : Int) < (zs.length : Int) := by omega
      obtain ⟨G, rfl⟩ : ∃ G, A = some ⟨G, 0, none⟩ := by
        rcases ho.2 with ⟨_, h1⟩ | ⟨g', cap', cur, hv, _⟩
        · omega
        · exact ⟨g', by injection hv⟩
      obtain ⟨v, hv⟩ : ∃ v, wr.cell? ⟨G, j, none⟩ = some v := by
        rw [ho.cellAt j (by omega)]
        exact ⟨_, List.getElem?_eq_getElem (by simp; omega)⟩
      have hf := ho.frozenAt j
      obtain ⟨ho2, hg2⟩ := ho.stored j (.int .i64 (k + j))
      rw [ints_set hlt] at ho2
      have hg3 : w.grownBy (wr.setCell ⟨G, j, none⟩ (.int .i64 (k + j))) (Value.slice (some ⟨G, 0, none⟩) zs.length cap).ownBlock := only_trans hg hg2
      clear ho hg hg2
      go_wp2
      go_roundw
      case rel => exact ⟨j + 1, by go_num, by go_num, by omega, ho2, hg3⟩
      case measure => simp [intOf]; omega
    · have hlt' : ¬ (j : Int) < (zs.length : Int) := by omega
      go_wp2
      go_ret
      have : j = zs.length := by omega
      subst this
      exact ⟨rfl, by simpa using ho, hg⟩

set_option maxRecDepth 100000 in
set_option maxHeartbeats 1000000 in
theorem heldI_any (A : Option Addr) (cap n : Nat) (k : Int) (w : World) (hr : Row w A (ints (marks k n))) (hm : n ≤ 1048576) (hk0 : 1 ≤ k) (hk : k ≤ 3000000) :
    Calls Try.prog 43 #[.slice A n cap, .int .i64 k] w fun e w' => e = .returned (.int .i64 (k + n)) ∧ w = w' := by
  have HR := Lib.hid hr
  clear hr
  go_enter Try.func43, Try.ntmps43
  go_wp2
  go_loop [1, 5] (fun q i => ∃ (j : Nat), i = .int .i64 j ∧ q = .int .i64 (k + j) ∧ j ≤ n) (fun _ i => n - (intOf i).toNat)
  case atStart => exact ⟨0, rfl, by go_num, Nat.zero_le _⟩
  case round =>
    obtain ⟨j, rfl, rfl, hj⟩ := hrel
    by_cases hlt : j < n
    · have hlt' : (j : Int) < (n : Int) := by omega
      obtain ⟨b, off, rfl, hc⟩ := HR.out.int (k := j) (by simpa using hlt)
      rw [marks_at] at hc
      have hne : ((k + (j : Int)) != (k + (j : Int))) = false := by simp
      go_wp2
      go_round
      case rel => exact ⟨j + 1, by go_num, by go_num, by omega⟩
      case measure => simp [intOf]; omega
    · have hlt' : ¬ (j : Int) < (n : Int) := by omega
      go_wp2
      go_ret
      have : j = n := by omega
      subst this
      exact ⟨rfl, rfl⟩

end Go.Proofs.Ytcanhkngikeeiaa
