/- Stable sorting: what the pieces are compared by; the insertion sort. -/
import Derived.Test.YtcanhkngikeeiaaU2
import Derived.Lib.Bytealg
namespace Go.Proofs.Ytcanhkngikeeiaa
open Go.Shelf Go.RowKit Go.Lib Go.Sort
set_option linter.unusedVariables false

theorem compare_lt : ∀ (a b : List UInt8), compareBytes a b < 0 ↔ a < b
  | [], [] => by simp [compareBytes]
  | [], b :: bs => by simp [compareBytes]
  | a :: l, [] => by simp [compareBytes]
  | a :: l, b :: bs => by
    rw [List.cons_lt_cons_iff]
    unfold compareBytes
    by_cases h1 : a < b
    · simp [h1]
    · rw [if_neg h1]
      by_cases h2 : b < a
      · rw [if_pos h2]
        have : a ≠ b := fun e => by rw [e] at h2; exact UInt8.lt_irrefl _ h2
        simp [h1, this]
      · rw [if_neg h2, compare_lt l bs]
        have : a = b := UInt8.le_antisymm (UInt8.not_lt.1 h2) (UInt8.not_lt.1 h1)
        simp [this]

/-- How two pieces compare. -/
def cfP (x y : PP) : Int := compareBytes (tl x) (tl y)
theorem ltOf_cfP : ltOf cfP = ltT := by
  funext x y
  unfold ltOf cfP ltT
  exact decide_eq_decide.2 (compare_lt _ _)
theorem cfP_neg {x y : PP} : cfP x y < 0 ↔ ltT x y = true := by unfold cfP ltT; rw [compare_lt]; simp

set_option maxHeartbeats 1000000 in
set_option maxRecDepth 100000 in
theorem compareString_any (a b : ByteArray) (w : World) :
    Calls Try.prog 91 #[.string a, .string b] w fun e w' => e = .returned (.int .i64 (compareBytes a.data.toList b.data.toList)) ∧ w = w' := by
  go_enter Try.func91, Try.ntmps91
  go_wp2
  rw [run_callFunc_extern Try.func94 (by kernel_rfl) (by kernel_rfl) (by kernel_rfl) (e := Extern.BytealgCompare.compare) (by kernel_rfl), Lib.run_compareString]
  simp only [Result.andThen]
  rw [Oper.upon_value]
  go_wp2
  go_ret
  exact ⟨rfl, rfl⟩
set_option maxHeartbeats 1000000 in
theorem strCompare_any (a b : ByteArray) (w : World) :
    Calls Try.prog 85 #[.string a, .string b] w fun e w' => e = .returned (.int .i64 (compareBytes a.data.toList b.data.toList)) ∧ w = w' := by
  go_enter Try.func85, Try.ntmps85
  go_wp2_with (go_at_call 91; refine (compareString_any _ _ _).mono ?_; rintro e w' ⟨rfl, rfl⟩)
  go_ret
  exact ⟨rfl, rfl⟩
set_option maxHeartbeats 1000000 in
theorem clos84 (x y : PP) (W : World) : Calls Try.prog 84 #[.agg (enc x).toArray, .agg (enc y).toArray] W fun e w' => e = .returned (.int .i64 (cfP x y)) ∧ ∃ q os', w' = grow (W.drewN q) os' := by
  have hcon := fun W' => strCompare_any x.1 y.1 W'
  unfold cfP tl
  generalize compareBytes x.1.data.toList y.1.data.toList = r at hcon ⊢
  unfold enc
  go_enter Try.func84, Try.ntmps84
  go_wp2_with (go_at_call 85; refine (hcon _).mono ?_; rintro e w' ⟨rfl, rfl⟩)
  go_ret
  exact ⟨rfl, 0, _, by rw [alloc_eq_grow, alloc_eq_grow, grow_grow]; rfl⟩
theorem cmpLays84 (blk off size : Nat) (w : World) : CmpLays Try.prog 84 #[] enc 2 cfP blk off size w := fun _ _ _ _ x y => clos84 x y _

def insRen : Go.Shelf.Ren := ⟨fun | 20 => 92 | n => n, fun | 0 => 0 | 3 => 3 | 4 => 4 | 22 => 86 | 24 => 105 | 25 => 110 | n => n, fun | n => n⟩
theorem insLays : SlLaysF0.n20 Try.prog insRen := {
  mixed := by kernel_rfl
  f20 := ⟨Try.f92.name, by kernel_rfl, Try.func92.trans (congrArg some (by kernel_rfl))⟩
  t0 := Try.underlying0
  a0 := Try.isAgg0
  z0 := Try.sizeOf0
  v0 := Try.zeroValue0
  t3 := Try.underlying3
  a3 := Try.isAgg3
  z3 := Try.sizeOf3
  v3 := Try.zeroValue3
  t4 := Try.underlying4
  a4 := Try.isAgg4
  z4 := Try.sizeOf4
  v4 := Try.zeroValue4
  t22 := Try.underlying86
  a22 := Try.isAgg86
  z22 := Try.sizeOf86
  v22 := Try.zeroValue86
  t25 := Try.underlying110
  a25 := Try.isAgg110
  z25 := Try.sizeOf110
  v25 := Try.zeroValue110 }
theorem enc_len (x : PP) : (enc x).length = 2 := rfl
theorem enc_one (x : PP) : ∀ v ∈ enc x, v.oneCell' = true := fun v hv => by simp [enc] at hv; rcases hv with rfl | rfl <;> rfl
theorem enters84 : ∀ args w, (callFunc 84 args).run Try.prog w = .ok (.enter 84 args) w := enters_of Try.func84 (by kernel_rfl) rfl

/-- What a part of the sort leaves of a row from a to b. -/
def Sorts (blk off a b : Nat) (d : Array PP) (w0 : World) (e : Ending) (w' : World) : Prop :=
  e = .returned (.tuple #[]) ∧ ∃ d', Merged a b d d' ∧ SWK enc 2 w0 blk off d' w'

theorem insSort_any (blk off cap a b : Nat) (d0 d : Array PP) (w0 w : World) (R : RowK enc 2 w0 blk off d0) (hs : d0.size = d.size) (S : SWK enc 2 w0 blk off d w) (hab : a ≤ b) (hb : b ≤ d.size) (hsz : d.size < 4611686018427387904) (hA : Asc a b d) :
    Calls Try.prog 92 #[.slice (some ⟨blk, off, none⟩) d.size cap, .int .i64 a, .int .i64 b, .func (.func 84) #[] #[]] w (Sorts blk off a b d w0) := by
  have hH : HoldsK enc 2 w blk off d := S.holds R.hblk R.hH hs.symm
  have h := AnyQ.insertionSortCmpFunc insLays 2 Try.isAgg105 Try.sizeOf105 enc enc_len enc_one cfP 84 #[] blk off cap a b d w enters84 (cmpLays84 blk off d.size w) hH (S.lt R.hblk) hab hb hsz
  refine h.mono ?_
  rintro e w' ⟨rfl, n, os, rfl⟩
  have hI := insertionSort_holds (lt := ltL) swo_ltL d a b hab hb
  rw [ltOf_cfP, insertionSort_L hb hA]
  exact ⟨rfl, _, hI, S.on R.hblk n _ os hI.1.1⟩

end Go.Proofs.Ytcanhkngikeeiaa
