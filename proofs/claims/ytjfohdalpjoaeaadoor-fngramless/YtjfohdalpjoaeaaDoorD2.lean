/- What l6Open and l71Bytes do. -/
import Derived.Test.YtjfohdalpjoaeaaDoorD1
import Derived.Laws.BytesArg
namespace Go.Proofs.YtjfohdalpjoaeaaDoor
open Go.RowKit
set_option linter.unusedVariables false

/-- A new reader. -/
def OpenPost (w : World) (e : Ending) (w' : World) : Prop :=
  ∃ g, e = .returned (.pointer (some ⟨g, 0, none⟩)) ∧ w.heap.size ≤ g ∧ Rd w' (g + 1) g 0 ∧ Below w.heap.size w w'

theorem Rd.new {w : World} {A : Option Addr} {cap : Nat} {zs : List Int} (hrow : Row w A (byts zs)) (hz : zs.length ≤ 2000) (hzs : ∀ z ∈ zs, 0 ≤ z ∧ z ≤ 255) :
    Rd (w.alloc (.cells #[.slice A zs.length cap, .int .i64 0] 60)) (w.heap.size + 1) w.heap.size 0 := by
  refine ⟨A, cap, 0, zs, by simpa using Own.new w 60 #[.slice A zs.length cap, .int .i64 0], Nat.le_refl _, hrow.alloc _, hz, hzs, by omega, ?_⟩
  rcases hrow with h | ⟨b, off, hA, hc⟩
  · left; simpa [byts] using h
  · by_cases h0 : zs = []
    · exact .inl h0
    · right
      have hl : 0 < (byts zs).length := by cases zs <;> simp_all
      exact ⟨b, off, hA, by have := cell_lt (hc 0 hl); simp at this; omega⟩

theorem Row.take {w : World} {A : Option Addr} {xs : List Value} (h : Row w A xs) (n : Nat) : Row w A (xs.take n) := by
  rcases h with h | ⟨b, off, hA, hc⟩
  · subst h; simp; exact .inl rfl
  · exact .inr ⟨b, off, hA, fun i hi => by rw [List.getElem_take]; exact hc i (by simp at hi; omega)⟩

set_option maxHeartbeats 400000 in
theorem open_any (A : Option Addr) (cap : Nat) (zs : List Int) (w : World) (hrow : Row w A (byts zs)) (hz : zs.length ≤ 1048576) (hcap : zs.length ≤ cap) (hzs : ∀ z ∈ zs, 0 ≤ z ∧ z ≤ 255) :
    Calls Tryd.prog 12 #[.slice A zs.length cap] w (OpenPost w) := by
  have HR := Lib.hid hrow
  have HZ := Lib.hid hzs
  clear hrow hzs
  by_cases h : 2000 < zs.length
  · have h' : (2000 : Int) < (zs.length : Int) := by omega
    go_enter Tryd.func12, Tryd.ntmps12
    go_wp2
    go_ret
    have hl : (zs.take 2000).length = 2000 := by simp; omega
    refine ⟨w.heap.size, rfl, Nat.le_refl _, ?_, below_box _⟩
    have := Rd.new (w := w) (A := A) (cap := cap) (zs := zs.take 2000) (by have := HR.out.take 2000; simpa [byts, List.map_take] using this) (by omega) (fun z hz => HZ.out z (List.mem_of_mem_take hz))
    rw [hl] at this
    exact this
  · have h' : ¬ (2000 : Int) < (zs.length : Int) := by omega
    go_enter Tryd.func12, Tryd.ntmps12
    go_wp2
    go_ret
    exact ⟨w.heap.size, rfl, Nat.le_refl _, Rd.new HR.out (by omega) HZ.out, below_box _⟩

end Go.Proofs.YtjfohdalpjoaeaaDoor
