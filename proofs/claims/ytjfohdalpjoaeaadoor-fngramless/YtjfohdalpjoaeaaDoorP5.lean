/- Rules copied. -/
import Derived.Test.YtjfohdalpjoaeaaDoorP4
namespace Go.Proofs.YtjfohdalpjoaeaaDoor
open Go.RowKit
set_option linter.unusedVariables false

/-- A copy of a rule: all of it is new. -/
def NewRu (nm : ByteArray) (k : Int) (t : ByteArray) (lo hi : List Int) (kids : List Pt) (mn mx : Int) (w : World) (e : Ending) (w' : World) : Prop :=
  ∃ A B K, e = .returned (.agg #[.string nm, .int .i64 k, .string t, .slice A lo.length lo.length, .slice B hi.length hi.length, .slice K kids.length kids.length, .int .i64 mn, .int .i64 mx]) ∧ PtV w' w.heap.size lo hi kids A B K ∧ Below w.heap.size w w'

set_option maxRecDepth 100000 in
set_option maxHeartbeats 1000000 in
theorem toRule_any (nm : ByteArray) (k : Int) (t : ByteArray) (lo hi : List Int) (kids : List Pt) (mn mx : Int) (A B K : Option Addr) (ca cb kc B0 : Nat) (w : World) (hv : PtV w B0 lo hi kids A B K) (hl : Lim 1048576 (.mk k t lo hi kids mn mx)) :
    Calls Tryd.prog 43 #[.agg #[.string nm, .int .i64 k, .string t, .slice A lo.length ca, .slice B hi.length cb, .slice K kids.length kc, .int .i64 mn, .int .i64 mx]] w (NewRu nm k t lo hi kids mn mx w) := by
  have HV := Lib.hid hv
  have HL := Lib.hid hl
  clear hv hl
  have O2 : Own (((w.alloc (.cells #[.string nm, .int .i64 k, .string t, .slice A lo.length ca, .slice B hi.length cb, .slice K kids.length kc, .int .i64 mn, .int .i64 mx] 83)).alloc (.cells #[.string { data := #[] }, .int .i64 0, .string { data := #[] }, .slice none 0 0, .slice none 0 0, .slice none 0 0, .int .i64 0, .int .i64 0] 33)).alloc (.cells #[.string nm, .int .i64 0, .string { data := #[] }, .slice none 0 0, .slice none 0 0, .slice none 0 0, .int .i64 0, .int .i64 0] 33)) (w.heap.size + 1) 33 [.string { data := #[] }, .int .i64 0, .string { data := #[] }, .slice none 0 0, .slice none 0 0, .slice none 0 0, .int .i64 0, .int .i64 0] := by
    have h := Own.new (w.alloc (.cells #[.string nm, .int .i64 k, .string t, .slice A lo.length ca, .slice B hi.length cb, .slice K kids.length kc, .int .i64 mn, .int .i64 mx] 83)) 33 #[.string { data := #[] }, .int .i64 0, .string { data := #[] }, .slice none 0 0, .slice none 0 0, .slice none 0 0, .int .i64 0, .int .i64 0]
    rw [World.size_alloc] at h
    exact h.alloc _
  have O3 : Own (((w.alloc (.cells #[.string nm, .int .i64 k, .string t, .slice A lo.length ca, .slice B hi.length cb, .slice K kids.length kc, .int .i64 mn, .int .i64 mx] 83)).alloc (.cells #[.string { data := #[] }, .int .i64 0, .string { data := #[] }, .slice none 0 0, .slice none 0 0, .slice none 0 0, .int .i64 0, .int .i64 0] 33)).alloc (.cells #[.string nm, .int .i64 0, .string { data := #[] }, .slice none 0 0, .slice none 0 0, .slice none 0 0, .int .i64 0, .int .i64 0] 33)) (w.heap.size + 2) 33 [.string nm, .int .i64 0, .string { data := #[] }, .slice none 0 0, .slice none 0 0, .slice none 0 0, .int .i64 0, .int .i64 0] := by
    have h := Own.new ((w.alloc (.cells #[.string nm, .int .i64 k, .string t, .slice A lo.length ca, .slice B hi.length cb, .slice K kids.length kc, .int .i64 mn, .int .i64 mx] 83)).alloc (.cells #[.string { data := #[] }, .int .i64 0, .string { data := #[] }, .slice none 0 0, .slice none 0 0, .slice none 0 0, .int .i64 0, .int .i64 0] 33)) 33 #[.string nm, .int .i64 0, .string { data := #[] }, .slice none 0 0, .slice none 0 0, .slice none 0 0, .int .i64 0, .int .i64 0]
    rw [World.size_alloc, World.size_alloc] at h
    exact h
  have hbW : Below w.heap.size w (((w.alloc (.cells #[.string nm, .int .i64 k, .string t, .slice A lo.length ca, .slice B hi.length cb, .slice K kids.length kc, .int .i64 mn, .int .i64 mx] 83)).alloc (.cells #[.string { data := #[] }, .int .i64 0, .string { data := #[] }, .slice none 0 0, .slice none 0 0, .slice none 0 0, .int .i64 0, .int .i64 0] 33)).alloc (.cells #[.string nm, .int .i64 0, .string { data := #[] }, .slice none 0 0, .slice none 0 0, .slice none 0 0, .int .i64 0, .int .i64 0] 33)) := ((below_box _).alloc (by simp) _).alloc (by simp; omega) _
  go_enter Tryd.func43, Tryd.ntmps43
  go_wp2_with fail
  generalize ((w.alloc (.cells #[.string nm, .int .i64 k, .string t, .slice A lo.length ca, .slice B hi.length cb, .slice K kids.length kc, .int .i64 mn, .int .i64 mx] 83)).alloc (.cells #[.string { data := #[] }, .int .i64 0, .string { data := #[] }, .slice none 0 0, .slice none 0 0, .slice none 0 0, .int .i64 0, .int .i64 0] 33)).alloc (.cells #[.string nm, .int .i64 0, .string { data := #[] }, .slice none 0 0, .slice none 0 0, .slice none 0 0, .int .i64 0, .int .i64 0] 33) = W0 at *
  have hW0 := O3.lt
  refine (to_all (htL kids + 1) k t lo hi kids mn mx A B K ca cb kc B0 W0 (Nat.le_refl _) (HV.out.keep hbW) HL.out).mono ?_
  rintro e w3 ⟨g1, g2, K3, rfl, hv3, hb3⟩
  have HB3 := Lib.hid (hbW.trans (hb3.mono hbW.size))
  have HV3 := Lib.hid (hv3.low (show w.heap.size + 3 ≤ W0.heap.size by omega))
  replace O2 := O2.keep hb3
  replace O3 := O3.keep hb3
  clear hv3 hb3 hbW
  have s0 : w3.cell? ⟨w.heap.size + 2, 0, none⟩ = some (.string nm) := by rw [O3.cell]; rfl
  have f0 := O3.frozen 0
  have r0 : w3.cell? ⟨w.heap.size + 1, 0, none⟩ = some (.string { data := #[] }) := by rw [O2.cell]; rfl
  have q0 := O2.frozen 0
  have s1 : w3.cell? ⟨w.heap.size + 2, 1, none⟩ = some (.int .i64 0) := by rw [O3.cell]; rfl
  have f1 := O3.frozen 1
  have r1 : w3.cell? ⟨w.heap.size + 1, 1, none⟩ = some (.int .i64 0) := by rw [O2.cell]; rfl
  have q1 := O2.frozen 1
  have s2 : w3.cell? ⟨w.heap.size + 2, 2, none⟩ = some (.string { data := #[] }) := by rw [O3.cell]; rfl
  have f2 := O3.frozen 2
  have r2 : w3.cell? ⟨w.heap.size + 1, 2, none⟩ = some (.string { data := #[] }) := by rw [O2.cell]; rfl
  have q2 := O2.frozen 2
  have s3 : w3.cell? ⟨w.heap.size + 2, 3, none⟩ = some (.slice none 0 0) := by rw [O3.cell]; rfl
  have f3 := O3.frozen 3
  have r3 : w3.cell? ⟨w.heap.size + 1, 3, none⟩ = some (.slice none 0 0) := by rw [O2.cell]; rfl
  have q3 := O2.frozen 3
  have s4 : w3.cell? ⟨w.heap.size + 2, 4, none⟩ = some (.slice none 0 0) := by rw [O3.cell]; rfl
  have f4 := O3.frozen 4
  have r4 : w3.cell? ⟨w.heap.size + 1, 4, none⟩ = some (.slice none 0 0) := by rw [O2.cell]; rfl
  have q4 := O2.frozen 4
  have s5 : w3.cell? ⟨w.heap.size + 2, 5, none⟩ = some (.slice none 0 0) := by rw [O3.cell]; rfl
  have f5 := O3.frozen 5
  have r5 : w3.cell? ⟨w.heap.size + 1, 5, none⟩ = some (.slice none 0 0) := by rw [O2.cell]; rfl
  have q5 := O2.frozen 5
  have s6 : w3.cell? ⟨w.heap.size + 2, 6, none⟩ = some (.int .i64 0) := by rw [O3.cell]; rfl
  have f6 := O3.frozen 6
  have r6 : w3.cell? ⟨w.heap.size + 1, 6, none⟩ = some (.int .i64 0) := by rw [O2.cell]; rfl
  have q6 := O2.frozen 6
  have s7 : w3.cell? ⟨w.heap.size + 2, 7, none⟩ = some (.int .i64 0) := by rw [O3.cell]; rfl
  have f7 := O3.frozen 7
  have r7 : w3.cell? ⟨w.heap.size + 1, 7, none⟩ = some (.int .i64 0) := by rw [O2.cell]; rfl
  have q7 := O2.frozen 7
  have z1 := O3.lt
  have z2 := O2.lt
  clear O2 O3
  go_wp2
  refine bodyPost_ret (v := .agg #[.string nm, .int .i64 k, .string t, .slice g1 lo.length lo.length, .slice g2 hi.length hi.length, .slice K3 kids.length kids.length, .int .i64 mn, .int .i64 mx]) (by simp [results, Tryd.results43, go_sem, r0, r1, r2, r3, r4, r5, r6, r7]) rfl ⟨_, _, K3, rfl, ?_, ?_⟩
  · exact ((((((((((((((((HV3.out.mv (.set_ (by simp only; omega) _)).mv (.set_ (by simp only; omega) _)).mv (.set_ (by simp only; omega) _)).mv (.set_ (by simp only; omega) _)).mv (.set_ (by simp only; omega) _)).mv (.set_ (by simp only; omega) _)).mv (.set_ (by simp only; omega) _)).mv (.set_ (by simp only; omega) _)).mv (.set_ (by simp only; omega) _)).mv (.set_ (by simp only; omega) _)).mv (.set_ (by simp only; omega) _)).mv (.set_ (by simp only; omega) _)).mv (.set_ (by simp only; omega) _)).mv (.set_ (by simp only; omega) _)).mv (.set_ (by simp only; omega) _))).low (by omega)
  · exact (((((((((((((((HB3.out.setCell (by simp only; omega) _).setCell (by simp only; omega) _).setCell (by simp only; omega) _).setCell (by simp only; omega) _).setCell (by simp only; omega) _).setCell (by simp only; omega) _).setCell (by simp only; omega) _).setCell (by simp only; omega) _).setCell (by simp only; omega) _).setCell (by simp only; omega) _).setCell (by simp only; omega) _).setCell (by simp only; omega) _).setCell (by simp only; omega) _).setCell (by simp only; omega) _).setCell (by simp only; omega) _)

end Go.Proofs.YtjfohdalpjoaeaaDoor
