/- The walk of the law FnExactSchemaOk: it returns true for all schemas, and writes nothing that was there. -/
import Derived.Test.YtkhcappjhefkjaaGreatDoorS3
import Derived.Test.YtkhcappjhefkjaaGreatDoorF7
namespace Go.Proofs.YtkhcappjhefkjaaGreatDoor
open Go.RowKit
set_option linter.unusedVariables false

theorem Own.six {w : World} {g : Nat} {T : TypeId} {a b c d e f : Value} (h : Own w g T [a, b, c, d, e, f]) : w.cell? ⟨g, 0, none⟩ = some a ∧ w.cell? ⟨g, 1, none⟩ = some b ∧ w.cell? ⟨g, 2, none⟩ = some c ∧ w.cell? ⟨g, 3, none⟩ = some d ∧ w.cell? ⟨g, 4, none⟩ = some e ∧ w.cell? ⟨g, 5, none⟩ = some f :=
  ⟨by rw [h.cell]; rfl, by rw [h.cell]; rfl, by rw [h.cell]; rfl, by rw [h.cell]; rfl, by rw [h.cell]; rfl, by rw [h.cell]; rfl⟩

set_option maxRecDepth 100000 in
set_option maxHeartbeats 2000000 in
theorem fnExactSchemaOk_walk (k mn mx : Int) (ns : List ByteArray) (ms : List Bool) (kids : List Sc) (A M K : Option Addr) (ca ma kc : Nat) (w : World) (hv : ScV w 0 ns ms kids A M K) (hl : LimS maxLen (.mk k mn mx ns ms kids)) :
    Calls Tryz.prog 3 #[.agg #[.int .i64 k, .int .i64 mn, .int .i64 mx, .slice A ns.length ca, .slice M ms.length ma, .slice K kids.length kc]] w (fun e w' => e = .returned (.bool true) ∧ Below w.heap.size w w') := by
  have HV := Lib.hid hv
  have HC0 := Lib.hid (szs_all (htS kids + 1) k mn mx ns ms kids A M K ca ma kc 0 1048576 (w.alloc (.cells #[.int .i64 k, .int .i64 mn, .int .i64 mx, .slice A ns.length ca, .slice M ms.length ma, .slice K kids.length kc] 26)) (Nat.le_refl _) (hv.keep (below_box _)) hl (by omega) (by omega))
  clear hv hl
  go_enter Tryz.func3, Tryz.ntmps3
  go_wp2_with fail
  refine HC0.out.mono ?_
  rintro e w1 ⟨r, rfl, _, hz, hb⟩
  have hb1 : Below w.heap.size w w1 := (below_box _).trans (hb.mono (by simp))
  have O1 : Hid (Own w1 w.heap.size 26 [.int .i64 k, .int .i64 mn, .int .i64 mx, .slice A ns.length ca, .slice M ms.length ma, .slice K kids.length kc]) := by
    refine Own.below ?_ hb (by simp)
    exact Own.new w 26 #[.int .i64 k, .int .i64 mn, .int .i64 mx, .slice A ns.length ca, .slice M ms.length ma, .slice K kids.length kc]
  clear hb HC0
  by_cases hn : r < 0
  · go_wp2
    go_ret
    exact ⟨rfl, hb1⟩
  · have HS : Hid (LimS 1048576 (.mk k mn mx ns ms kids)) := by
      rcases hz with h | h
      · exact absurd h hn
      · exact h.2
    have HB1 := Lib.hid hb1
    clear hz hb1
    have s0 : w1.cell? ⟨w.heap.size, 0, none⟩ = some (.int .i64 k) := by rw [O1.out.cell]; rfl
    have s1 : w1.cell? ⟨w.heap.size, 1, none⟩ = some (.int .i64 mn) := by rw [O1.out.cell]; rfl
    have s2 : w1.cell? ⟨w.heap.size, 2, none⟩ = some (.int .i64 mx) := by rw [O1.out.cell]; rfl
    have s3 : w1.cell? ⟨w.heap.size, 3, none⟩ = some (.slice A ns.length ca) := by rw [O1.out.cell]; rfl
    have s4 : w1.cell? ⟨w.heap.size, 4, none⟩ = some (.slice M ms.length ma) := by rw [O1.out.cell]; rfl
    have s5 : w1.cell? ⟨w.heap.size, 5, none⟩ = some (.slice K kids.length kc) := by rw [O1.out.cell]; rfl
    have sl := O1.out.lt
    go_wp2_with fail
    refine (tos_all (htS kids + 1) k mn mx ns ms kids A M K ca ma kc 0 _ (Nat.le_refl _) (HV.out.keep HB1.out) HS.out).mono ?_
    rintro e w2 ⟨A2, M2, K2, rfl, hA2, hb⟩
    clear s0 s1 s2 s3 s4 s5 sl
    have HB2 := Lib.hid (HB1.out.trans (hb.mono HB1.out.size))
    have O2 := Lib.hid (O1.out.below hb O1.out.lt)
    have HA2 := Lib.hid hA2
    clear hb hA2
    have s0 : w2.cell? ⟨w.heap.size, 0, none⟩ = some (.int .i64 k) := by rw [O2.out.cell]; rfl
    have s1 : w2.cell? ⟨w.heap.size, 1, none⟩ = some (.int .i64 mn) := by rw [O2.out.cell]; rfl
    have s2 : w2.cell? ⟨w.heap.size, 2, none⟩ = some (.int .i64 mx) := by rw [O2.out.cell]; rfl
    have s3 : w2.cell? ⟨w.heap.size, 3, none⟩ = some (.slice A ns.length ca) := by rw [O2.out.cell]; rfl
    have s4 : w2.cell? ⟨w.heap.size, 4, none⟩ = some (.slice M ms.length ma) := by rw [O2.out.cell]; rfl
    have s5 : w2.cell? ⟨w.heap.size, 5, none⟩ = some (.slice K kids.length kc) := by rw [O2.out.cell]; rfl
    have sl := O2.out.lt
    go_wp2_with fail
    refine (specSchemaOk_any k mn mx ns ms kids A2 M2 K2 ns.length ms.length kids.length _ _ HA2.out HS.out).mono ?_
    rintro e w3 ⟨q1, rfl, hq1, hb⟩
    clear s0 s1 s2 s3 s4 s5 sl
    have HB3 := Lib.hid (HB2.out.trans (hb.mono HB2.out.size))
    have O3 := Lib.hid (O2.out.below hb O2.out.lt)
    have HQ1 := Lib.hid hq1
    clear hb hq1
    have s0 : w3.cell? ⟨w.heap.size, 0, none⟩ = some (.int .i64 k) := by rw [O3.out.cell]; rfl
    have s1 : w3.cell? ⟨w.heap.size, 1, none⟩ = some (.int .i64 mn) := by rw [O3.out.cell]; rfl
    have s2 : w3.cell? ⟨w.heap.size, 2, none⟩ = some (.int .i64 mx) := by rw [O3.out.cell]; rfl
    have s3 : w3.cell? ⟨w.heap.size, 3, none⟩ = some (.slice A ns.length ca) := by rw [O3.out.cell]; rfl
    have s4 : w3.cell? ⟨w.heap.size, 4, none⟩ = some (.slice M ms.length ma) := by rw [O3.out.cell]; rfl
    have s5 : w3.cell? ⟨w.heap.size, 5, none⟩ = some (.slice K kids.length kc) := by rw [O3.out.cell]; rfl
    have sl := O3.out.lt
    go_wp2_with fail
    refine (tos_all (htS kids + 1) k mn mx ns ms kids A M K ca ma kc 0 _ (Nat.le_refl _) (HV.out.keep HB3.out) HS.out).mono ?_
    rintro e w4 ⟨A4, M4, K4, rfl, hA4, hb⟩
    clear s0 s1 s2 s3 s4 s5 sl
    have HB4 := Lib.hid (HB3.out.trans (hb.mono HB3.out.size))
    have O4 := Lib.hid (O3.out.below hb O3.out.lt)
    clear hb
    have hbx : Below w4.heap.size w4 (w4.alloc (.cells #[.int .i64 k, .int .i64 mn, .int .i64 mx, .slice A4 ns.length ns.length, .slice M4 ms.length ms.length, .slice K4 kids.length kids.length] 31)) := below_box _
    have HA4 := Lib.hid (hA4.keep hbx)
    have H5 := Lib.hid (implSchemaOk_any k mn mx ns ms kids A4 M4 K4 ns.length ms.length kids.length _ _ (hA4.keep hbx) HS.out (Nat.le_refl _))
    have HB5 := Lib.hid (HB4.out.trans (hbx.mono HB4.out.size))
    have O5 := Lib.hid (O4.out.below hbx O4.out.lt)
    have X5 : Hid (Own (w4.alloc (.cells #[.int .i64 k, .int .i64 mn, .int .i64 mx, .slice A4 ns.length ns.length, .slice M4 ms.length ms.length, .slice K4 kids.length kids.length] 31)) w4.heap.size 31 [.int .i64 k, .int .i64 mn, .int .i64 mx, .slice A4 ns.length ns.length, .slice M4 ms.length ms.length, .slice K4 kids.length kids.length]) := Own.new w4 31 #[.int .i64 k, .int .i64 mn, .int .i64 mx, .slice A4 ns.length ns.length, .slice M4 ms.length ms.length, .slice K4 kids.length kids.length]
    clear hbx hA4
    have s0 : w4.cell? ⟨w.heap.size, 0, none⟩ = some (.int .i64 k) := by rw [O4.out.cell]; rfl
    have s1 : w4.cell? ⟨w.heap.size, 1, none⟩ = some (.int .i64 mn) := by rw [O4.out.cell]; rfl
    have s2 : w4.cell? ⟨w.heap.size, 2, none⟩ = some (.int .i64 mx) := by rw [O4.out.cell]; rfl
    have s3 : w4.cell? ⟨w.heap.size, 3, none⟩ = some (.slice A ns.length ca) := by rw [O4.out.cell]; rfl
    have s4 : w4.cell? ⟨w.heap.size, 4, none⟩ = some (.slice M ms.length ma) := by rw [O4.out.cell]; rfl
    have s5 : w4.cell? ⟨w.heap.size, 5, none⟩ = some (.slice K kids.length kc) := by rw [O4.out.cell]; rfl
    have sl := O4.out.lt
    go_wp2_with fail
    generalize w4.alloc (.cells #[.int .i64 k, .int .i64 mn, .int .i64 mx, .slice A4 ns.length ns.length, .slice M4 ms.length ms.length, .slice K4 kids.length kids.length] 31) = W4 at *
    refine H5.out.mono ?_
    rintro e w5 ⟨q2, rfl, hq2, hb⟩
    clear s0 s1 s2 s3 s4 s5 sl
    have HB6 := Lib.hid (HB5.out.trans (hb.mono HB5.out.size))
    have O6 := Lib.hid (O5.out.below hb O5.out.lt)
    have X6 := Lib.hid (X5.out.below hb X5.out.lt)
    have HA6 := Lib.hid (HA4.out.keep hb)
    have HQ2 := Lib.hid hq2
    clear hb hq2 H5 HA4 O5 X5 HB5
    have hqq : q2 = q1 := by
      have a1 := HQ1.out
      have a2 := HQ2.out
      cases q1 <;> cases q2
      · rfl
      · exact absurd (a1.2 (a2.1 rfl)) (by simp)
      · exact absurd (a2.2 (a1.1 rfl)) (by simp)
      · rfl
    subst hqq
    have e1 : (q2 != q2) = false := by simp
    have s0 := O6.out.cell 0
    have s1 := O6.out.cell 1
    have s2 := O6.out.cell 2
    have s3 := O6.out.cell 3
    have s4 := O6.out.cell 4
    have s5 := O6.out.cell 5
    have u0 := X6.out.cell 0
    have u1 := X6.out.cell 1
    have u2 := X6.out.cell 2
    have u3 := X6.out.cell 3
    have u4 := X6.out.cell 4
    have u5 := X6.out.cell 5
    simp only [List.getElem?_cons_zero, List.getElem?_cons_succ] at s0 s1 s2 s3 s4 s5 u0 u1 u2 u3 u4 u5
    have sl := O6.out.lt
    have ul := X6.out.lt
    go_wp2
    go_region_held3 (fun W => (W.cell? ⟨w.heap.size, 0, none⟩ = some (.int .i64 k) ∧ W.cell? ⟨w.heap.size, 1, none⟩ = some (.int .i64 mn) ∧ W.cell? ⟨w.heap.size, 2, none⟩ = some (.int .i64 mx) ∧ W.cell? ⟨w.heap.size, 3, none⟩ = some (.slice A ns.length ca) ∧ W.cell? ⟨w.heap.size, 4, none⟩ = some (.slice M ms.length ma) ∧ W.cell? ⟨w.heap.size, 5, none⟩ = some (.slice K kids.length kc)) ∧ W.cell? ⟨w4.heap.size, 0, none⟩ = some (.int .i64 k) ∧ W.cell? ⟨w4.heap.size, 1, none⟩ = some (.int .i64 mn) ∧ W.cell? ⟨w4.heap.size, 2, none⟩ = some (.int .i64 mx) ∧ W.cell? ⟨w4.heap.size, 3, none⟩ = some (.slice A4 ns.length ns.length) ∧ W.cell? ⟨w4.heap.size, 4, none⟩ = some (.slice M4 ms.length ms.length) ∧ W.cell? ⟨w4.heap.size, 5, none⟩ = some (.slice K4 kids.length kids.length))
      (first | exact ⟨(((O6.out.drew).below hb6 sl).below hb7 (Nat.lt_of_lt_of_le sl hb6.size)).six, (((X6.out.drew).below hb6 ul).below hb7 (Nat.lt_of_lt_of_le ul hb6.size)).six⟩ | exact ⟨((O6.out.drew).below hb6 sl).six, ((X6.out.drew).below hb6 ul).six⟩ | exact ⟨O6.out.drew.six, X6.out.drew.six⟩ | exact ⟨O6.out.six, X6.out.six⟩)
      (first | (go_at_call 17; refine (tos_all (htS kids + 1) k mn mx ns ms kids A M K ca ma kc 0 _ (Nat.le_refl _) (HV.out.keep HB6.out.drew) HS.out).mono ?_; rintro e w6 ⟨A6, M6, K6, rfl, hA6, hb6⟩)
             | (go_at_call 19; refine (eqs_all (htS kids + 1) k mn mx ns ms kids A4 M4 K4 A6 M6 K6 _ _ _ _ _ _ _ _ _ (Nat.le_refl _) ((HA6.out.keep (Below.refl _ _).drew).keep hb6) hA6 HS.out).mono ?_; rintro e w7 ⟨rfl, hb7⟩))
    have hb8 := (HB6.out.drew.trans (hb6.mono HB6.out.drew.size)).trans (hb7.mono (Nat.le_trans HB6.out.drew.size hb6.size))
    go_wp2
    go_ret
    exact ⟨rfl, hb8⟩

end Go.Proofs.YtkhcappjhefkjaaGreatDoor
