/- The specification's l32Fits, SchemaFits. (written by gen_g2.py) -/
import Derived.Test.YtkhcappjhefkjaaGreatDoorQ5
namespace Go.Proofs.YtkhcappjhefkjaaGreatDoor
open Go.RowKit
set_option linter.unusedVariables false

theorem fitD1 {n : Nat} {mn mx : Int} {ns : List ByteArray} {ms : List Bool} {kids : List Sc} {jk : Int} {jf : Bool} {jt : ByteArray} {jns : List ByteArray} {jkids : List Js} : FitD (n + 1) (.mk 1 mn mx ns ms kids) (.mk jk jf jt jns jkids) ↔ (jk = 1) := by
  rw [FitD]
  constructor
  · rintro (h | h | h | h | h | h) <;> first | exact h.2 | (exfalso; omega)
  · intro h; exact .inl ⟨.inl rfl, h⟩

set_option maxRecDepth 100000 in
set_option maxHeartbeats 8000000 in
theorem fiK1 {n : Nat} (IH : FiS n) (mn mx : Int) (ns : List ByteArray) (ms : List Bool) (kids : List Sc) (A M KA : Option Addr) (ca ma kc B0 : Nat) (jk : Int) (jf : Bool) (jt : ByteArray) (jns : List ByteArray) (jkids : List Js) (jA jK : Option Addr) (jca jkc B1 : Nat) (w : World) (hh : htS kids ≤ n) (hv : ScV w B0 ns ms kids A M KA) (hl : LimS 1048576 (.mk 1 mn mx ns ms kids)) (hok : SokP (.mk 1 mn mx ns ms kids)) (hvj : JsV w B1 jns jkids jA jK) (hlj : LimJ 1048576 (.mk jk jf jt jns jkids)) (hokj : JokP (.mk jk jf jt jns jkids)) :
    Calls Tryz.prog 47 #[.agg #[.int .i64 1, .int .i64 mn, .int .i64 mx, .slice A ns.length ca, .slice M ms.length ma, .slice KA kids.length kc], .agg #[.int .i64 jk, .bool jf, .string jt, .slice jA jns.length jca, .slice jK jkids.length jkc]] w (BoolPost (FitD (n + 1) (.mk 1 mn mx ns ms kids) (.mk jk jf jt jns jkids)) w) := by
  rw [show FitD (n + 1) (.mk 1 mn mx ns ms kids) (.mk jk jf jt jns jkids) = (jk = 1) from propext fitD1]
  obtain ⟨Q, hQ⟩ : ∃ Q : Prop, Q ↔ (jk = 1) := ⟨_, Iff.rfl⟩
  rw [show (jk = 1) = Q from (propext hQ).symm]
  have HQ := Lib.hid hQ
  obtain ⟨W0, hW0⟩ : ∃ W0, (w.alloc (.cells #[.int .i64 1, .int .i64 mn, .int .i64 mx, .slice A ns.length ca, .slice M ms.length ma, .slice KA kids.length kc] 31)).alloc (.cells #[.int .i64 jk, .bool jf, .string jt, .slice jA jns.length jca, .slice jK jkids.length jkc] 42) = W0 := ⟨_, rfl⟩
  have HBX : Hid (Below w.heap.size w W0) := by rw [← hW0]; exact (below_box _).alloc (by simp) _
  have HOS : Hid (Own W0 w.heap.size 31 (c6 1 mn mx A ns.length ca M ms.length ma KA kids.length kc)) := by rw [← hW0]; exact (Own.new w 31 #[.int .i64 1, .int .i64 mn, .int .i64 mx, .slice A ns.length ca, .slice M ms.length ma, .slice KA kids.length kc]).alloc _
  have HOJ : Hid (Own W0 (w.heap.size + 1) 42 (c5 jk jf jt jA jns.length jca jK jkids.length jkc)) := by
    rw [← hW0]
    have := Own.new (w.alloc (.cells #[.int .i64 1, .int .i64 mn, .int .i64 mx, .slice A ns.length ca, .slice M ms.length ma, .slice KA kids.length kc] 31)) 42 #[.int .i64 jk, .bool jf, .string jt, .slice jA jns.length jca, .slice jK jkids.length jkc]
    rw [World.size_alloc] at this
    exact this
  have HV := Lib.hid (hv.keep HBX.out)
  have HVJ := Lib.hid (hvj.keep HBX.out)
  have HI := Lib.hid IH
  have HH := Lib.hid hh
  have HOK := Lib.hid hok
  have HOKJ := Lib.hid hokj
  have HLJJ := Lib.hid hlj
  cases hl with
  | mk _ _ _ _ _ _ l2 l3 lm l4 l5 lb =>
  cases hlj with
  | mk _ _ _ _ _ m1 m2 m3 m4 m5 =>
  have HL5 := Lib.hid l5
  have HM5 := Lib.hid m5
  have HW := Lib.hid hW0
  clear hQ hW0 hv hvj IH hh hok hokj l3 l5 lb m3 m5
  obtain ⟨p0, p1, p2, p3, p4, p5⟩ := c6_get HOS.out
  obtain ⟨q0, q1, q2, q3, q4⟩ := c5_get HOJ.out
  have pl := HOS.out.lt
  have ql := HOJ.out.lt
  go_enter Tryz.func47, Tryz.ntmps47
  go_upto_region 1 with fail
  rw [HW.out]
  clear HW
  go_wp2
  go_ret
  refine ⟨_, rfl, ?_, HBX.out⟩
  rw [HQ.out, beq_iff_eq]

theorem fitD2 {n : Nat} {mn mx : Int} {ns : List ByteArray} {ms : List Bool} {kids : List Sc} {jk : Int} {jf : Bool} {jt : ByteArray} {jns : List ByteArray} {jkids : List Js} : FitD (n + 1) (.mk 2 mn mx ns ms kids) (.mk jk jf jt jns jkids) ↔ (jk = 2) := by
  rw [FitD]
  constructor
  · rintro (h | h | h | h | h | h) <;> first | exact h.2 | (exfalso; omega)
  · intro h; exact .inl ⟨.inr (.inl rfl), h⟩

set_option maxRecDepth 100000 in
set_option maxHeartbeats 8000000 in
theorem fiK2 {n : Nat} (IH : FiS n) (mn mx : Int) (ns : List ByteArray) (ms : List Bool) (kids : List Sc) (A M KA : Option Addr) (ca ma kc B0 : Nat) (jk : Int) (jf : Bool) (jt : ByteArray) (jns : List ByteArray) (jkids : List Js) (jA jK : Option Addr) (jca jkc B1 : Nat) (w : World) (hh : htS kids ≤ n) (hv : ScV w B0 ns ms kids A M KA) (hl : LimS 1048576 (.mk 2 mn mx ns ms kids)) (hok : SokP (.mk 2 mn mx ns ms kids)) (hvj : JsV w B1 jns jkids jA jK) (hlj : LimJ 1048576 (.mk jk jf jt jns jkids)) (hokj : JokP (.mk jk jf jt jns jkids)) :
    Calls Tryz.prog 47 #[.agg #[.int .i64 2, .int .i64 mn, .int .i64 mx, .slice A ns.length ca, .slice M ms.length ma, .slice KA kids.length kc], .agg #[.int .i64 jk, .bool jf, .string jt, .slice jA jns.length jca, .slice jK jkids.length jkc]] w (BoolPost (FitD (n + 1) (.mk 2 mn mx ns ms kids) (.mk jk jf jt jns jkids)) w) := by
  rw [show FitD (n + 1) (.mk 2 mn mx ns ms kids) (.mk jk jf jt jns jkids) = (jk = 2) from propext fitD2]
  obtain ⟨Q, hQ⟩ : ∃ Q : Prop, Q ↔ (jk = 2) := ⟨_, Iff.rfl⟩
  rw [show (jk = 2) = Q from (propext hQ).symm]
  have HQ := Lib.hid hQ
  obtain ⟨W0, hW0⟩ : ∃ W0, (w.alloc (.cells #[.int .i64 2, .int .i64 mn, .int .i64 mx, .slice A ns.length ca, .slice M ms.length ma, .slice KA kids.length kc] 31)).alloc (.cells #[.int .i64 jk, .bool jf, .string jt, .slice jA jns.length jca, .slice jK jkids.length jkc] 42) = W0 := ⟨_, rfl⟩
  have HBX : Hid (Below w.heap.size w W0) := by rw [← hW0]; exact (below_box _).alloc (by simp) _
  have HOS : Hid (Own W0 w.heap.size 31 (c6 2 mn mx A ns.length ca M ms.length ma KA kids.length kc)) := by rw [← hW0]; exact (Own.new w 31 #[.int .i64 2, .int .i64 mn, .int .i64 mx, .slice A ns.length ca, .slice M ms.length ma, .slice KA kids.length kc]).alloc _
  have HOJ : Hid (Own W0 (w.heap.size + 1) 42 (c5 jk jf jt jA jns.length jca jK jkids.length jkc)) := by
    rw [← hW0]
    have := Own.new (w.alloc (.cells #[.int .i64 2, .int .i64 mn, .int .i64 mx, .slice A ns.length ca, .slice M ms.length ma, .slice KA kids.length kc] 31)) 42 #[.int .i64 jk, .bool jf, .string jt, .slice jA jns.length jca, .slice jK jkids.length jkc]
    rw [World.size_alloc] at this
    exact this
  have HV := Lib.hid (hv.keep HBX.out)
  have HVJ := Lib.hid (hvj.keep HBX.out)
  have HI := Lib.hid IH
  have HH := Lib.hid hh
  have HOK := Lib.hid hok
  have HOKJ := Lib.hid hokj
  have HLJJ := Lib.hid hlj
  cases hl with
  | mk _ _ _ _ _ _ l2 l3 lm l4 l5 lb =>
  cases hlj with
  | mk _ _ _ _ _ m1 m2 m3 m4 m5 =>
  have HL5 := Lib.hid l5
  have HM5 := Lib.hid m5
  have HW := Lib.hid hW0
  clear hQ hW0 hv hvj IH hh hok hokj l3 l5 lb m3 m5
  obtain ⟨p0, p1, p2, p3, p4, p5⟩ := c6_get HOS.out
  obtain ⟨q0, q1, q2, q3, q4⟩ := c5_get HOJ.out
  have pl := HOS.out.lt
  have ql := HOJ.out.lt
  go_enter Tryz.func47, Tryz.ntmps47
  go_upto_region 1 with fail
  rw [HW.out]
  clear HW
  go_wp2
  go_ret
  refine ⟨_, rfl, ?_, HBX.out⟩
  rw [HQ.out, beq_iff_eq]

theorem fitD3 {n : Nat} {mn mx : Int} {ns : List ByteArray} {ms : List Bool} {kids : List Sc} {jk : Int} {jf : Bool} {jt : ByteArray} {jns : List ByteArray} {jkids : List Js} : FitD (n + 1) (.mk 3 mn mx ns ms kids) (.mk jk jf jt jns jkids) ↔ (jk = 3) := by
  rw [FitD]
  constructor
  · rintro (h | h | h | h | h | h) <;> first | exact h.2 | (exfalso; omega)
  · intro h; exact .inl ⟨.inr (.inr rfl), h⟩

set_option maxRecDepth 100000 in
set_option maxHeartbeats 8000000 in
theorem fiK3 {n : Nat} (IH : FiS n) (mn mx : Int) (ns : List ByteArray) (ms : List Bool) (kids : List Sc) (A M KA : Option Addr) (ca ma kc B0 : Nat) (jk : Int) (jf : Bool) (jt : ByteArray) (jns : List ByteArray) (jkids : List Js) (jA jK : Option Addr) (jca jkc B1 : Nat) (w : World) (hh : htS kids ≤ n) (hv : ScV w B0 ns ms kids A M KA) (hl : LimS 1048576 (.mk 3 mn mx ns ms kids)) (hok : SokP (.mk 3 mn mx ns ms kids)) (hvj : JsV w B1 jns jkids jA jK) (hlj : LimJ 1048576 (.mk jk jf jt jns jkids)) (hokj : JokP (.mk jk jf jt jns jkids)) :
    Calls Tryz.prog 47 #[.agg #[.int .i64 3, .int .i64 mn, .int .i64 mx, .slice A ns.length ca, .slice M ms.length ma, .slice KA kids.length kc], .agg #[.int .i64 jk, .bool jf, .string jt, .slice jA jns.length jca, .slice jK jkids.length jkc]] w (BoolPost (FitD (n + 1) (.mk 3 mn mx ns ms kids) (.mk jk jf jt jns jkids)) w) := by
  rw [show FitD (n + 1) (.mk 3 mn mx ns ms kids) (.mk jk jf jt jns jkids) = (jk = 3) from propext fitD3]
  obtain ⟨Q, hQ⟩ : ∃ Q : Prop, Q ↔ (jk = 3) := ⟨_, Iff.rfl⟩
  rw [show (jk = 3) = Q from (propext hQ).symm]
  have HQ := Lib.hid hQ
  obtain ⟨W0, hW0⟩ : ∃ W0, (w.alloc (.cells #[.int .i64 3, .int .i64 mn, .int .i64 mx, .slice A ns.length ca, .slice M ms.length ma, .slice KA kids.length kc] 31)).alloc (.cells #[.int .i64 jk, .bool jf, .string jt, .slice jA jns.length jca, .slice jK jkids.length jkc] 42) = W0 := ⟨_, rfl⟩
  have HBX : Hid (Below w.heap.size w W0) := by rw [← hW0]; exact (below_box _).alloc (by simp) _
  have HOS : Hid (Own W0 w.heap.size 31 (c6 3 mn mx A ns.length ca M ms.length ma KA kids.length kc)) := by rw [← hW0]; exact (Own.new w 31 #[.int .i64 3, .int .i64 mn, .int .i64 mx, .slice A ns.length ca, .slice M ms.length ma, .slice KA kids.length kc]).alloc _
  have HOJ : Hid (Own W0 (w.heap.size + 1) 42 (c5 jk jf jt jA jns.length jca jK jkids.length jkc)) := by
    rw [← hW0]
    have := Own.new (w.alloc (.cells #[.int .i64 3, .int .i64 mn, .int .i64 mx, .slice A ns.length ca, .slice M ms.length ma, .slice KA kids.length kc] 31)) 42 #[.int .i64 jk, .bool jf, .string jt, .slice jA jns.length jca, .slice jK jkids.length jkc]
    rw [World.size_alloc] at this
    exact this
  have HV := Lib.hid (hv.keep HBX.out)
  have HVJ := Lib.hid (hvj.keep HBX.out)
  have HI := Lib.hid IH
  have HH := Lib.hid hh
  have HOK := Lib.hid hok
  have HOKJ := Lib.hid hokj
  have HLJJ := Lib.hid hlj
  cases hl with
  | mk _ _ _ _ _ _ l2 l3 lm l4 l5 lb =>
  cases hlj with
  | mk _ _ _ _ _ m1 m2 m3 m4 m5 =>
  have HL5 := Lib.hid l5
  have HM5 := Lib.hid m5
  have HW := Lib.hid hW0
  clear hQ hW0 hv hvj IH hh hok hokj l3 l5 lb m3 m5
  obtain ⟨p0, p1, p2, p3, p4, p5⟩ := c6_get HOS.out
  obtain ⟨q0, q1, q2, q3, q4⟩ := c5_get HOJ.out
  have pl := HOS.out.lt
  have ql := HOJ.out.lt
  go_enter Tryz.func47, Tryz.ntmps47
  go_upto_region 1 with fail
  rw [HW.out]
  clear HW
  go_wp2
  go_ret
  refine ⟨_, rfl, ?_, HBX.out⟩
  rw [HQ.out, beq_iff_eq]

theorem fitD4 {n : Nat} {mn mx : Int} {ns : List ByteArray} {ms : List Bool} {kids : List Sc} {jk : Int} {jf : Bool} {jt : ByteArray} {jns : List ByteArray} {jkids : List Js} : FitD (n + 1) (.mk 4 mn mx ns ms kids) (.mk jk jf jt jns jkids) ↔ (jk = 4 ∧ mn ≤ (jt.size : Int) ∧ (jt.size : Int) ≤ mx) := by
  rw [FitD]
  constructor
  · rintro (h | h | h | h | h | h) <;> first | exact h.2 | (exfalso; omega)
  · intro h; exact .inr (.inl ⟨rfl, h⟩)

set_option maxRecDepth 100000 in
set_option maxHeartbeats 8000000 in
theorem fiK4 {n : Nat} (IH : FiS n) (mn mx : Int) (ns : List ByteArray) (ms : List Bool) (kids : List Sc) (A M KA : Option Addr) (ca ma kc B0 : Nat) (jk : Int) (jf : Bool) (jt : ByteArray) (jns : List ByteArray) (jkids : List Js) (jA jK : Option Addr) (jca jkc B1 : Nat) (w : World) (hh : htS kids ≤ n) (hv : ScV w B0 ns ms kids A M KA) (hl : LimS 1048576 (.mk 4 mn mx ns ms kids)) (hok : SokP (.mk 4 mn mx ns ms kids)) (hvj : JsV w B1 jns jkids jA jK) (hlj : LimJ 1048576 (.mk jk jf jt jns jkids)) (hokj : JokP (.mk jk jf jt jns jkids)) :
    Calls Tryz.prog 47 #[.agg #[.int .i64 4, .int .i64 mn, .int .i64 mx, .slice A ns.length ca, .slice M ms.length ma, .slice KA kids.length kc], .agg #[.int .i64 jk, .bool jf, .string jt, .slice jA jns.length jca, .slice jK jkids.length jkc]] w (BoolPost (FitD (n + 1) (.mk 4 mn mx ns ms kids) (.mk jk jf jt jns jkids)) w) := by
  rw [show FitD (n + 1) (.mk 4 mn mx ns ms kids) (.mk jk jf jt jns jkids) = (jk = 4 ∧ mn ≤ (jt.size : Int) ∧ (jt.size : Int) ≤ mx) from propext fitD4]
  obtain ⟨Q, hQ⟩ : ∃ Q : Prop, Q ↔ (jk = 4 ∧ mn ≤ (jt.size : Int) ∧ (jt.size : Int) ≤ mx) := ⟨_, Iff.rfl⟩
  rw [show (jk = 4 ∧ mn ≤ (jt.size : Int) ∧ (jt.size : Int) ≤ mx) = Q from (propext hQ).symm]
  have HQ := Lib.hid hQ
  obtain ⟨W0, hW0⟩ : ∃ W0, (w.alloc (.cells #[.int .i64 4, .int .i64 mn, .int .i64 mx, .slice A ns.length ca, .slice M ms.length ma, .slice KA kids.length kc] 31)).alloc (.cells #[.int .i64 jk, .bool jf, .string jt, .slice jA jns.length jca, .slice jK jkids.length jkc] 42) = W0 := ⟨_, rfl⟩
  have HBX : Hid (Below w.heap.size w W0) := by rw [← hW0]; exact (below_box _).alloc (by simp) _
  have HOS : Hid (Own W0 w.heap.size 31 (c6 4 mn mx A ns.length ca M ms.length ma KA kids.length kc)) := by rw [← hW0]; exact (Own.new w 31 #[.int .i64 4, .int .i64 mn, .int .i64 mx, .slice A ns.length ca, .slice M ms.length ma, .slice KA kids.length kc]).alloc _
  have HOJ : Hid (Own W0 (w.heap.size + 1) 42 (c5 jk jf jt jA jns.length jca jK jkids.length jkc)) := by
    rw [← hW0]
    have := Own.new (w.alloc (.cells #[.int .i64 4, .int .i64 mn, .int .i64 mx, .slice A ns.length ca, .slice M ms.length ma, .slice KA kids.length kc] 31)) 42 #[.int .i64 jk, .bool jf, .string jt, .slice jA jns.length jca, .slice jK jkids.length jkc]
    rw [World.size_alloc] at this
    exact this
  have HV := Lib.hid (hv.keep HBX.out)
  have HVJ := Lib.hid (hvj.keep HBX.out)
  have HI := Lib.hid IH
  have HH := Lib.hid hh
  have HOK := Lib.hid hok
  have HOKJ := Lib.hid hokj
  have HLJJ := Lib.hid hlj
  cases hl with
  | mk _ _ _ _ _ _ l2 l3 lm l4 l5 lb =>
  cases hlj with
  | mk _ _ _ _ _ m1 m2 m3 m4 m5 =>
  have HL5 := Lib.hid l5
  have HM5 := Lib.hid m5
  have HW := Lib.hid hW0
  clear hQ hW0 hv hvj IH hh hok hokj l3 l5 lb m3 m5
  obtain ⟨p0, p1, p2, p3, p4, p5⟩ := c6_get HOS.out
  obtain ⟨q0, q1, q2, q3, q4⟩ := c5_get HOJ.out
  have pl := HOS.out.lt
  have ql := HOJ.out.lt
  go_enter Tryz.func47, Tryz.ntmps47
  go_upto_region 1 with fail
  rw [HW.out]
  clear HW
  by_cases e : jk = 4
  · have e' : (jk == 4) = true := by simp [e]
    have HE := Lib.hid e
    clear e
    go_wp2_with fail
    refine (l6In_any (jt.size : Int) mn mx _).mono ?_
    rintro e w2 ⟨rfl, hw2⟩
    rw [hw2]
    clear hw2
    go_wp2
    go_ret
    refine ⟨_, rfl, ?_, HBX.out⟩
    rw [HQ.out, inB_iff]
    exact ⟨fun h => ⟨HE.out, h⟩, fun h => h.2⟩
  · have e' : (jk == 4) = false := by simp [e]
    have HF : Hid (¬ Q) := fun h => e (HQ.out.1 h).1
    clear e
    go_wp2
    go_ret
    exact ⟨false, rfl, iffF HF.out, HBX.out⟩

theorem fitD5 {n : Nat} {mn mx : Int} {ns : List ByteArray} {ms : List Bool} {kids : List Sc} {jk : Int} {jf : Bool} {jt : ByteArray} {jns : List ByteArray} {jkids : List Js} : FitD (n + 1) (.mk 5 mn mx ns ms kids) (.mk jk jf jt jns jkids) ↔ (jk = 5 ∧ (mn ≤ (jkids.length : Int) ∧ (jkids.length : Int) ≤ mx) ∧ ∀ q ∈ jkids, ∀ s ∈ kids.head?, FitD n s q) := by
  rw [FitD]
  constructor
  · rintro (h | h | h | h | h | h) <;> first | exact h.2 | (exfalso; omega)
  · intro h; exact .inr (.inr (.inl ⟨rfl, h⟩))

set_option maxRecDepth 100000 in
set_option maxHeartbeats 8000000 in
theorem fiK5 {n : Nat} (IH : FiS n) (mn mx : Int) (ns : List ByteArray) (ms : List Bool) (kids : List Sc) (A M KA : Option Addr) (ca ma kc B0 : Nat) (jk : Int) (jf : Bool) (jt : ByteArray) (jns : List ByteArray) (jkids : List Js) (jA jK : Option Addr) (jca jkc B1 : Nat) (w : World) (hh : htS kids ≤ n) (hv : ScV w B0 ns ms kids A M KA) (hl : LimS 1048576 (.mk 5 mn mx ns ms kids)) (hok : SokP (.mk 5 mn mx ns ms kids)) (hvj : JsV w B1 jns jkids jA jK) (hlj : LimJ 1048576 (.mk jk jf jt jns jkids)) (hokj : JokP (.mk jk jf jt jns jkids)) :
    Calls Tryz.prog 47 #[.agg #[.int .i64 5, .int .i64 mn, .int .i64 mx, .slice A ns.length ca, .slice M ms.length ma, .slice KA kids.length kc], .agg #[.int .i64 jk, .bool jf, .string jt, .slice jA jns.length jca, .slice jK jkids.length jkc]] w (BoolPost (FitD (n + 1) (.mk 5 mn mx ns ms kids) (.mk jk jf jt jns jkids)) w) := by
  rw [show FitD (n + 1) (.mk 5 mn mx ns ms kids) (.mk jk jf jt jns jkids) = (jk = 5 ∧ (mn ≤ (jkids.length : Int) ∧ (jkids.length : Int) ≤ mx) ∧ ∀ q ∈ jkids, ∀ s ∈ kids.head?, FitD n s q) from propext fitD5]
  obtain ⟨Q, hQ⟩ : ∃ Q : Prop, Q ↔ (jk = 5 ∧ (mn ≤ (jkids.length : Int) ∧ (jkids.length : Int) ≤ mx) ∧ ∀ q ∈ jkids, ∀ s ∈ kids.head?, FitD n s q) := ⟨_, Iff.rfl⟩
  rw [show (jk = 5 ∧ (mn ≤ (jkids.length : Int) ∧ (jkids.length : Int) ≤ mx) ∧ ∀ q ∈ jkids, ∀ s ∈ kids.head?, FitD n s q) = Q from (propext hQ).symm]
  have HQ := Lib.hid hQ
  obtain ⟨W0, hW0⟩ : ∃ W0, (w.alloc (.cells #[.int .i64 5, .int .i64 mn, .int .i64 mx, .slice A ns.length ca, .slice M ms.length ma, .slice KA kids.length kc] 31)).alloc (.cells #[.int .i64 jk, .bool jf, .string jt, .slice jA jns.length jca, .slice jK jkids.length jkc] 42) = W0 := ⟨_, rfl⟩
  have HBX : Hid (Below w.heap.size w W0) := by rw [← hW0]; exact (below_box _).alloc (by simp) _
  have HOS : Hid (Own W0 w.heap.size 31 (c6 5 mn mx A ns.length ca M ms.length ma KA kids.length kc)) := by rw [← hW0]; exact (Own.new w 31 #[.int .i64 5, .int .i64 mn, .int .i64 mx, .slice A ns.length ca, .slice M ms.length ma, .slice KA kids.length kc]).alloc _
  have HOJ : Hid (Own W0 (w.heap.size + 1) 42 (c5 jk jf jt jA jns.length jca jK jkids.length jkc)) := by
    rw [← hW0]
    have := Own.new (w.alloc (.cells #[.int .i64 5, .int .i64 mn, .int .i64 mx, .slice A ns.length ca, .slice M ms.length ma, .slice KA kids.length kc] 31)) 42 #[.int .i64 jk, .bool jf, .string jt, .slice jA jns.length jca, .slice jK jkids.length jkc]
    rw [World.size_alloc] at this
    exact this
  have HV := Lib.hid (hv.keep HBX.out)
  have HVJ := Lib.hid (hvj.keep HBX.out)
  have HI := Lib.hid IH
  have HH := Lib.hid hh
  have HOK := Lib.hid hok
  have HOKJ := Lib.hid hokj
  have HLJJ := Lib.hid hlj
  cases hl with
  | mk _ _ _ _ _ _ l2 l3 lm l4 l5 lb =>
  cases hlj with
  | mk _ _ _ _ _ m1 m2 m3 m4 m5 =>
  have HL5 := Lib.hid l5
  have HM5 := Lib.hid m5
  have HW := Lib.hid hW0
  clear hQ hW0 hv hvj IH hh hok hokj l3 l5 lb m3 m5
  obtain ⟨p0, p1, p2, p3, p4, p5⟩ := c6_get HOS.out
  obtain ⟨q0, q1, q2, q3, q4⟩ := c5_get HOJ.out
  have pl := HOS.out.lt
  have ql := HOJ.out.lt
  go_enter Tryz.func47, Tryz.ntmps47
  go_upto_region 1 with fail
  rw [HW.out]
  clear HW
  by_cases e : jk = 5
  · have e' : (jk != 5) = false := by simp [e]
    have HE := Lib.hid e
    clear e
    go_wp2_with fail
    refine (l6In_any (jkids.length : Int) mn mx _).mono ?_
    rintro e w2 ⟨rfl, hw2⟩
    rw [hw2]
    clear hw2
    obtain ⟨b1, hb1⟩ : ∃ b, inB (jkids.length : Int) mn mx = b := ⟨_, rfl⟩
    rw [hb1]
    have HB1 := Lib.hid hb1
    clear hb1
    cases b1
    · have HF : Hid (¬ Q) := fun h => by
        have := inB_iff.2 (HQ.out.1 h).2.1
        rw [HB1.out] at this; cases this
      go_wp2
      go_ret
      exact ⟨false, rfl, iffF HF.out, HBX.out⟩
    · have HIN := Lib.hid (inB_iff.1 HB1.out)
      clear HB1
      have hk1 : kids.length = 1 := by
        rcases HOK.out.one with h | h | h | h | h | h <;> omega
      have hk0 : 0 < kids.length := by omega
      obtain ⟨p, hpk⟩ : ∃ p, kids = [p] := by
        match kids, hk1 with
        | [p], _ => exact ⟨p, rfl⟩
      have HPK := Lib.hid hpk
      clear hpk hk1
      go_wp2
      clear p0 p1 p2 p3 p4 p5 q0 q1 q2 q3 q4 pl ql
      go_loopw [6] (fun i wr => ∃ j : Nat, i = .int .i64 j ∧ j ≤ jkids.length ∧ Hid (∀ u (h : u < jkids.length), u < j → FitD n p jkids[u]) ∧ Hid (Below W0.heap.size W0 wr)) (fun i _ => jkids.length - (intOf i).toNat)
      case atStart => exact ⟨0, rfl, by omega, fun u _ hu => by omega, Below.refl _ _⟩
      case round =>
        obtain ⟨i, rfl, hi, HU, HB⟩ := hrel
        obtain ⟨p0, p1, p2, p3, p4, p5⟩ := c6_get (HOS.out.keep HB.out)
        obtain ⟨q0, q1, q2, q3, q4⟩ := c5_get (HOJ.out.keep HB.out)
        have pl := (HOS.out.keep HB.out).lt
        have ql := (HOJ.out.keep HB.out).lt
        by_cases hik : i < jkids.length
        · have hik' : (i : Int) < (jkids.length : Int) := by omega
          have hk0' : (0 : Int) < (kids.length : Int) := by omega
          obtain ⟨b6, off6, rfl, hp⟩ := (HV.out.k.keep HB.out).at_ hk0
          obtain ⟨b5, off5, rfl, hq⟩ := (HVJ.out.k.keep HB.out).at_ hik
          have hpe : kids[0] = p := by have := HPK.out; subst this; rfl
          have hm1 := List.getElem_mem hk0
          have hm2 := List.getElem_mem hik
          have hlim := HL5.out _ hm1
          have hht := htS_mem hm1
          have ho1 := HOK.out.kids _ hm1
          have hlimj := HM5.out _ hm2
          have ho2 := HOKJ.out.kids _ hm2
          rw [hpe] at hp hlim hht ho1
          rw [Nat.zero_mul, Nat.add_zero] at hp
          have HUJ : Hid (FitD n p jkids[i] → ∀ u (h : u < jkids.length), u < i + 1 → FitD n p jkids[u]) := fun h1 u hu huj => by
            rcases Nat.lt_succ_iff_lt_or_eq.1 huj with h3 | h3
            · exact HU.out u hu h3
            · subst h3; exact h1
          have HNO : Hid (Q → FitD n p jkids[i]) := fun h => (HQ.out.1 h).2.2 _ hm2 p (by rw [HPK.out]; rfl)
          clear hm1 hm2 hpe
          generalize jkids[i] = q at *
          obtain ⟨pk, pmn, pmx, pns, pms, pkids⟩ := p
          obtain ⟨qk, qf, qt, qns, qkids⟩ := q
          rw [htS_mk] at hht
          obtain ⟨PA, PM, PK, pa, pm, pc, hc, hvp⟩ := hp.open_
          obtain ⟨c0, c1, c2, c3, c4, c5, cle⟩ := hc
          obtain ⟨QA, QK, qa, qc, hd, hvq⟩ := hq.open_
          obtain ⟨d0, d1, d2, d3, d4, dle⟩ := hd
          have HC : Hid (∀ W, Below wr.heap.size wr W → Calls Tryz.prog 47 #[.agg #[.int .i64 pk, .int .i64 pmn, .int .i64 pmx, .slice PA pns.length pa, .slice PM pms.length pm, .slice PK pkids.length pc], .agg #[.int .i64 qk, .bool qf, .string qt, .slice QA qns.length qa, .slice QK qkids.length qc]] W (BoolPost (FitD n (.mk pk pmn pmx pns pms pkids) (.mk qk qf qt qns qkids)) W)) := fun W hbW =>
            HI.out pk pmn pmx pns pms pkids PA PM PK pa pm pc B0 qk qf qt qns qkids QA QK qa qc B1 W (by have := HH.out; omega) (hvp.keep hbW) hlim ho1 (hvq.keep hbW) hlimj ho2
          have HS : Hid (∀ X, Below wr.heap.size wr X → (fun X => X.cell? ⟨w.heap.size, 5, none⟩ = some (.slice (some ⟨b6, off6, none⟩) kids.length kc) ∧ X.cell? ⟨b6, off6, none⟩ = some (.int .i64 pk) ∧ X.cell? ⟨b6, off6 + 1, none⟩ = some (.int .i64 pmn) ∧ X.cell? ⟨b6, off6 + 2, none⟩ = some (.int .i64 pmx) ∧ X.cell? ⟨b6, off6 + 3, none⟩ = some (.slice PA pns.length pa) ∧ X.cell? ⟨b6, off6 + 4, none⟩ = some (.slice PM pms.length pm) ∧ X.cell? ⟨b6, off6 + 5, none⟩ = some (.slice PK pkids.length pc) ∧ X.cell? ⟨w.heap.size + 1, 4, none⟩ = some (.slice (some ⟨b5, off5, none⟩) jkids.length jkc) ∧ X.cell? ⟨b5, off5 + i * 5, none⟩ = some (.int .i64 qk) ∧ X.cell? ⟨b5, off5 + i * 5 + 1, none⟩ = some (.bool qf) ∧ X.cell? ⟨b5, off5 + i * 5 + 2, none⟩ = some (.string qt) ∧ X.cell? ⟨b5, off5 + i * 5 + 3, none⟩ = some (.slice QA qns.length qa) ∧ X.cell? ⟨b5, off5 + i * 5 + 4, none⟩ = some (.slice QK qkids.length qc)) X) := fun X h => ⟨cell_keep h p5, cell_keep h c0, cell_keep h c1, cell_keep h c2, cell_keep h c3, cell_keep h c4, cell_keep h c5, cell_keep h q4, cell_keep h d0, cell_keep h d1, cell_keep h d2, cell_keep h d3, cell_keep h d4⟩
          go_upto_region 24 with fail
          clear hp hq hvp hvq hlim hlimj hht ho1 ho2 cle dle p0 p1 p2 p3 p4 p5 q0 q1 q2 q3 q4 c0 c1 c2 c3 c4 c5 d0 d1 d2 d3 d4
          refine wp_region_held_drew (S := (fun X => X.cell? ⟨w.heap.size, 5, none⟩ = some (.slice (some ⟨b6, off6, none⟩) kids.length kc) ∧ X.cell? ⟨b6, off6, none⟩ = some (.int .i64 pk) ∧ X.cell? ⟨b6, off6 + 1, none⟩ = some (.int .i64 pmn) ∧ X.cell? ⟨b6, off6 + 2, none⟩ = some (.int .i64 pmx) ∧ X.cell? ⟨b6, off6 + 3, none⟩ = some (.slice PA pns.length pa) ∧ X.cell? ⟨b6, off6 + 4, none⟩ = some (.slice PM pms.length pm) ∧ X.cell? ⟨b6, off6 + 5, none⟩ = some (.slice PK pkids.length pc) ∧ X.cell? ⟨w.heap.size + 1, 4, none⟩ = some (.slice (some ⟨b5, off5, none⟩) jkids.length jkc) ∧ X.cell? ⟨b5, off5 + i * 5, none⟩ = some (.int .i64 qk) ∧ X.cell? ⟨b5, off5 + i * 5 + 1, none⟩ = some (.bool qf) ∧ X.cell? ⟨b5, off5 + i * 5 + 2, none⟩ = some (.string qt) ∧ X.cell? ⟨b5, off5 + i * 5 + 3, none⟩ = some (.slice QA qns.length qa) ∧ X.cell? ⟨b5, off5 + i * 5 + 4, none⟩ = some (.slice QK qkids.length qc))) (by kernel_rfl) ?_ (fun hHeld => ?_)
          · exact HS.out _ (Below.refl _ _).drew
          (first
            | (refine held_take (i := 0) (v := ?_) rfl (by kernel_rfl) (by kernel_rfl) (by kernel_rfl) (fun _ _ _ h => h) (Or.inl ⟨rfl, ?_⟩) (by assumption) ?_; rotate_left; (intro X hSw; (try dsimp only at hSw); (go_simp <;> with_reducible rfl)))
            | (refine held_take (i := 0) (v := undef) rfl (by kernel_rfl) (by kernel_rfl) (by kernel_rfl) (fun _ _ _ h => h) (Or.inr ⟨rfl, rfl⟩) (by assumption) ?_)); simp only [Act.put, List.setIfInBounds_toArray, List.set_cons_zero, List.set_cons_succ]
          (first
            | (refine held_take (i := 1) (v := ?_) rfl (by kernel_rfl) (by kernel_rfl) (by kernel_rfl) (fun _ _ _ h => h) (Or.inl ⟨rfl, ?_⟩) (by assumption) ?_; rotate_left; (intro X hSw; (try dsimp only at hSw); (go_simp <;> with_reducible rfl)))
            | (refine held_take (i := 1) (v := undef) rfl (by kernel_rfl) (by kernel_rfl) (by kernel_rfl) (fun _ _ _ h => h) (Or.inr ⟨rfl, rfl⟩) (by assumption) ?_)); simp only [Act.put, List.setIfInBounds_toArray, List.set_cons_zero, List.set_cons_succ]
          (first
            | (refine held_take (i := 2) (v := ?_) rfl (by kernel_rfl) (by kernel_rfl) (by kernel_rfl) (fun _ _ _ h => h) (Or.inl ⟨rfl, ?_⟩) (by assumption) ?_; rotate_left; (intro X hSw; (try dsimp only at hSw); (go_simp <;> with_reducible rfl)))
            | (refine held_take (i := 2) (v := undef) rfl (by kernel_rfl) (by kernel_rfl) (by kernel_rfl) (fun _ _ _ h => h) (Or.inr ⟨rfl, rfl⟩) (by assumption) ?_)); simp only [Act.put, List.setIfInBounds_toArray, List.set_cons_zero, List.set_cons_succ]
          (first
            | (refine held_take (i := 3) (v := ?_) rfl (by kernel_rfl) (by kernel_rfl) (by kernel_rfl) (fun _ _ _ h => h) (Or.inl ⟨rfl, ?_⟩) (by assumption) ?_; rotate_left; (intro X hSw; (try dsimp only at hSw); (go_simp <;> with_reducible rfl)))
            | (refine held_take (i := 3) (v := undef) rfl (by kernel_rfl) (by kernel_rfl) (by kernel_rfl) (fun _ _ _ h => h) (Or.inr ⟨rfl, rfl⟩) (by assumption) ?_)); simp only [Act.put, List.setIfInBounds_toArray, List.set_cons_zero, List.set_cons_succ]
          (first
            | (refine held_take (i := 4) (v := ?_) rfl (by kernel_rfl) (by kernel_rfl) (by kernel_rfl) (fun _ _ _ h => h) (Or.inl ⟨rfl, ?_⟩) (by assumption) ?_; rotate_left; (intro X hSw; (try dsimp only at hSw); (go_simp <;> with_reducible rfl)))
            | (refine held_take (i := 4) (v := undef) rfl (by kernel_rfl) (by kernel_rfl) (by kernel_rfl) (fun _ _ _ h => h) (Or.inr ⟨rfl, rfl⟩) (by assumption) ?_)); simp only [Act.put, List.setIfInBounds_toArray, List.set_cons_zero, List.set_cons_succ]
          (first
            | (refine held_take (i := 5) (v := ?_) rfl (by kernel_rfl) (by kernel_rfl) (by kernel_rfl) (fun _ _ _ h => h) (Or.inl ⟨rfl, ?_⟩) (by assumption) ?_; rotate_left; (intro X hSw; (try dsimp only at hSw); (go_simp <;> with_reducible rfl)))
            | (refine held_take (i := 5) (v := undef) rfl (by kernel_rfl) (by kernel_rfl) (by kernel_rfl) (fun _ _ _ h => h) (Or.inr ⟨rfl, rfl⟩) (by assumption) ?_)); simp only [Act.put, List.setIfInBounds_toArray, List.set_cons_zero, List.set_cons_succ]
          (first
            | (refine held_take (i := 6) (v := ?_) rfl (by kernel_rfl) (by kernel_rfl) (by kernel_rfl) (fun _ _ _ h => h) (Or.inl ⟨rfl, ?_⟩) (by assumption) ?_; rotate_left; (intro X hSw; (try dsimp only at hSw); (go_simp <;> with_reducible rfl)))
            | (refine held_take (i := 6) (v := undef) rfl (by kernel_rfl) (by kernel_rfl) (by kernel_rfl) (fun _ _ _ h => h) (Or.inr ⟨rfl, rfl⟩) (by assumption) ?_)); simp only [Act.put, List.setIfInBounds_toArray, List.set_cons_zero, List.set_cons_succ]
          (first
            | (refine held_take (i := 7) (v := ?_) rfl (by kernel_rfl) (by kernel_rfl) (by kernel_rfl) (fun _ _ _ h => h) (Or.inl ⟨rfl, ?_⟩) (by assumption) ?_; rotate_left; (intro X hSw; (try dsimp only at hSw); (go_simp <;> with_reducible rfl)))
            | (refine held_take (i := 7) (v := undef) rfl (by kernel_rfl) (by kernel_rfl) (by kernel_rfl) (fun _ _ _ h => h) (Or.inr ⟨rfl, rfl⟩) (by assumption) ?_)); simp only [Act.put, List.setIfInBounds_toArray, List.set_cons_zero, List.set_cons_succ]
          (first
            | (refine held_take (i := 8) (v := ?_) rfl (by kernel_rfl) (by kernel_rfl) (by kernel_rfl) (fun _ _ _ h => h) (Or.inl ⟨rfl, ?_⟩) (by assumption) ?_; rotate_left; (intro X hSw; (try dsimp only at hSw); (go_simp <;> with_reducible rfl)))
            | (refine held_take (i := 8) (v := undef) rfl (by kernel_rfl) (by kernel_rfl) (by kernel_rfl) (fun _ _ _ h => h) (Or.inr ⟨rfl, rfl⟩) (by assumption) ?_)); simp only [Act.put, List.setIfInBounds_toArray, List.set_cons_zero, List.set_cons_succ]
          refine wpAnyH_ready (rs := [9]) (by kernel_rfl) (by simp) ?_
          refine AllReadyH.cons rfl (fun K hK => ?_) AllReadyH.nil
          go_simp
          refine (HC.out _ (Below.refl _ _).drew).mono ?_
          rintro e w2 ⟨r, rfl, hr, hb2⟩
          have HB2 : Hid (Below wr.heap.size wr w2) := (Below.refl wr.heap.size wr).drew.trans hb2
          have HR2 := Lib.hid hr
          clear hr hb2 hHeld
          refine hK.out _ _ ?_ (fun hHeld => ?_)
          · exact HS.out _ HB2.out
          clear hK K
          have HB3 := Lib.hid (HB.out.trans (HB2.out.mono HB.out.size))
          cases r
          · have HF : Hid (¬ Q) := fun h => by have := HR2.out.2 (HNO.out h); cases this
            (first
              | (refine held_take (i := 10) (v := ?_) rfl (by kernel_rfl) (by kernel_rfl) (by kernel_rfl) (fun _ _ _ h => h) (Or.inl ⟨rfl, ?_⟩) (by assumption) ?_; rotate_left; (intro X hSw; (try dsimp only at hSw); (go_simp <;> with_reducible rfl)))
              | (refine held_take (i := 10) (v := undef) rfl (by kernel_rfl) (by kernel_rfl) (by kernel_rfl) (fun _ _ _ h => h) (Or.inr ⟨rfl, rfl⟩) (by assumption) ?_)); simp only [Act.put, List.setIfInBounds_toArray, List.set_cons_zero, List.set_cons_succ]
            refine wpAnyH_done (by kernel_rfl) ?_ _
            go_wp2
            go_ret
            exact ⟨false, rfl, iffF HF.out, HBX.out.trans (HB3.out.mono HBX.out.size)⟩
          · have HU2 := Lib.hid (HUJ.out (by first | exact HR2.out.1 rfl | exact HR2.out.1 trivial))
            clear HU HUJ HNO
            (first
              | (refine held_take (i := 10) (v := ?_) rfl (by kernel_rfl) (by kernel_rfl) (by kernel_rfl) (fun _ _ _ h => h) (Or.inl ⟨rfl, ?_⟩) (by assumption) ?_; rotate_left; (intro X hSw; (try dsimp only at hSw); (go_simp <;> with_reducible rfl)))
              | (refine held_take (i := 10) (v := undef) rfl (by kernel_rfl) (by kernel_rfl) (by kernel_rfl) (fun _ _ _ h => h) (Or.inr ⟨rfl, rfl⟩) (by assumption) ?_)); simp only [Act.put, List.setIfInBounds_toArray, List.set_cons_zero, List.set_cons_succ]
            refine wpAnyH_done (by kernel_rfl) ?_ _
            go_wp2
            go_roundw
            case rel => exact ⟨i + 1, by go_num, by omega, HU2, HB3⟩
            case measure => simp [intOf]; omega
        · have hik' : ¬ (i : Int) < (jkids.length : Int) := by omega
          have HT : Hid Q := HQ.out.2 ⟨HE.out, HIN.out, fun q hq s hs => by
            obtain ⟨u, hu, rfl⟩ := List.getElem_of_mem hq
            rw [HPK.out] at hs
            simp at hs
            subst hs
            exact HU.out u hu (by omega)⟩
          go_wp2
          go_ret
          exact ⟨true, rfl, iffT HT.out, HBX.out.trans (HB.out.mono HBX.out.size)⟩
  · have e' : (jk != 5) = true := by simp [e]
    have HF : Hid (¬ Q) := fun h => e (HQ.out.1 h).1
    clear e
    go_wp2
    go_ret
    exact ⟨false, rfl, iffF HF.out, HBX.out⟩

theorem fitD6 {n : Nat} {mn mx : Int} {ns : List ByteArray} {ms : List Bool} {kids : List Sc} {jk : Int} {jf : Bool} {jt : ByteArray} {jns : List ByteArray} {jkids : List Js} : FitD (n + 1) (.mk 6 mn mx ns ms kids) (.mk jk jf jt jns jkids) ↔ (jk = 6 ∧ memP (FitD n) (sZip ns ms kids) (jZip jns jkids)) := by
  rw [FitD]
  constructor
  · rintro (h | h | h | h | h | h) <;> first | exact h.2 | (exfalso; omega)
  · intro h; exact .inr (.inr (.inr (.inl ⟨rfl, h⟩)))

set_option maxRecDepth 100000 in
set_option maxHeartbeats 8000000 in
theorem fiK6 {n : Nat} (IH : FiS n) (mn mx : Int) (ns : List ByteArray) (ms : List Bool) (kids : List Sc) (A M KA : Option Addr) (ca ma kc B0 : Nat) (jk : Int) (jf : Bool) (jt : ByteArray) (jns : List ByteArray) (jkids : List Js) (jA jK : Option Addr) (jca jkc B1 : Nat) (w : World) (hh : htS kids ≤ n) (hv : ScV w B0 ns ms kids A M KA) (hl : LimS 1048576 (.mk 6 mn mx ns ms kids)) (hok : SokP (.mk 6 mn mx ns ms kids)) (hvj : JsV w B1 jns jkids jA jK) (hlj : LimJ 1048576 (.mk jk jf jt jns jkids)) (hokj : JokP (.mk jk jf jt jns jkids)) :
    Calls Tryz.prog 47 #[.agg #[.int .i64 6, .int .i64 mn, .int .i64 mx, .slice A ns.length ca, .slice M ms.length ma, .slice KA kids.length kc], .agg #[.int .i64 jk, .bool jf, .string jt, .slice jA jns.length jca, .slice jK jkids.length jkc]] w (BoolPost (FitD (n + 1) (.mk 6 mn mx ns ms kids) (.mk jk jf jt jns jkids)) w) := by
  rw [show FitD (n + 1) (.mk 6 mn mx ns ms kids) (.mk jk jf jt jns jkids) = (jk = 6 ∧ memP (FitD n) (sZip ns ms kids) (jZip jns jkids)) from propext fitD6]
  obtain ⟨Q, hQ⟩ : ∃ Q : Prop, Q ↔ (jk = 6 ∧ memP (FitD n) (sZip ns ms kids) (jZip jns jkids)) := ⟨_, Iff.rfl⟩
  rw [show (jk = 6 ∧ memP (FitD n) (sZip ns ms kids) (jZip jns jkids)) = Q from (propext hQ).symm]
  have HQ := Lib.hid hQ
  obtain ⟨W0, hW0⟩ : ∃ W0, (w.alloc (.cells #[.int .i64 6, .int .i64 mn, .int .i64 mx, .slice A ns.length ca, .slice M ms.length ma, .slice KA kids.length kc] 31)).alloc (.cells #[.int .i64 jk, .bool jf, .string jt, .slice jA jns.length jca, .slice jK jkids.length jkc] 42) = W0 := ⟨_, rfl⟩
  have HBX : Hid (Below w.heap.size w W0) := by rw [← hW0]; exact (below_box _).alloc (by simp) _
  have HOS : Hid (Own W0 w.heap.size 31 (c6 6 mn mx A ns.length ca M ms.length ma KA kids.length kc)) := by rw [← hW0]; exact (Own.new w 31 #[.int .i64 6, .int .i64 mn, .int .i64 mx, .slice A ns.length ca, .slice M ms.length ma, .slice KA kids.length kc]).alloc _
  have HOJ : Hid (Own W0 (w.heap.size + 1) 42 (c5 jk jf jt jA jns.length jca jK jkids.length jkc)) := by
    rw [← hW0]
    have := Own.new (w.alloc (.cells #[.int .i64 6, .int .i64 mn, .int .i64 mx, .slice A ns.length ca, .slice M ms.length ma, .slice KA kids.length kc] 31)) 42 #[.int .i64 jk, .bool jf, .string jt, .slice jA jns.length jca, .slice jK jkids.length jkc]
    rw [World.size_alloc] at this
    exact this
  have HV := Lib.hid (hv.keep HBX.out)
  have HVJ := Lib.hid (hvj.keep HBX.out)
  have HI := Lib.hid IH
  have HH := Lib.hid hh
  have HOK := Lib.hid hok
  have HOKJ := Lib.hid hokj
  have HLJJ := Lib.hid hlj
  cases hl with
  | mk _ _ _ _ _ _ l2 l3 lm l4 l5 lb =>
  cases hlj with
  | mk _ _ _ _ _ m1 m2 m3 m4 m5 =>
  have HL5 := Lib.hid l5
  have HM5 := Lib.hid m5
  have HW := Lib.hid hW0
  clear hQ hW0 hv hvj IH hh hok hokj l3 l5 lb m3 m5
  obtain ⟨p0, p1, p2, p3, p4, p5⟩ := c6_get HOS.out
  obtain ⟨q0, q1, q2, q3, q4⟩ := c5_get HOJ.out
  have pl := HOS.out.lt
  have ql := HOJ.out.lt
  go_enter Tryz.func47, Tryz.ntmps47
  go_upto_region 1 with fail
  rw [HW.out]
  clear HW
  by_cases e : jk = 6
  · have e' : (jk == 6) = true := by simp [e]
    have HE := Lib.hid e
    clear e
    have hz : ns.length = kids.length ∧ ms.length = kids.length := by
      rcases HOK.out.one with h | h | h | h | h | h
      · omega
      · omega
      · omega
      · exact ⟨h.2.2.2.1, h.2.2.2.2.1⟩
      · omega
      · omega
    have hy : jns.length = jkids.length := by
      have := HE.out
      rcases HOKJ.out.one with h | h | h | h | h | h
      · omega
      · omega
      · omega
      · omega
      · omega
      · exact h.2.2.2.1
    have HZ := Lib.hid (And.intro hz hy)
    clear hz hy
    go_wp2_with fail
    refine (memS HI.out 6 mn mx ns ms kids A M KA ca ma kc B0 jk jf jt jns jkids jA jK jca jkc B1 W0 HH.out HV.out HL5.out HOK.out.kids l2 HVJ.out HM5.out HOKJ.out.kids m2 (by have := HZ.out; omega) (by have := HZ.out; omega) (by have := HZ.out; omega)).mono ?_
    rintro e w2 ⟨r, rfl, hr, hb⟩
    have HR := Lib.hid hr
    have HB := Lib.hid (HBX.out.trans (hb.mono HBX.out.size))
    clear hr hb p0 p1 p2 p3 p4 p5 q0 q1 q2 q3 q4 pl ql
    go_wp2
    go_ret
    refine ⟨r, rfl, ?_, HB.out⟩
    rw [HQ.out, HR.out]
    unfold MemAt
    simp only [List.drop_zero]
    exact ⟨fun h => ⟨HE.out, h⟩, fun h => h.2⟩
  · have e' : (jk == 6) = false := by simp [e]
    have HF : Hid (¬ Q) := fun h => e (HQ.out.1 h).1
    clear e
    go_wp2
    go_ret
    exact ⟨false, rfl, iffF HF.out, HBX.out⟩

theorem fitD7 {n : Nat} {mn mx : Int} {ns : List ByteArray} {ms : List Bool} {kids : List Sc} {jk : Int} {jf : Bool} {jt : ByteArray} {jns : List ByteArray} {jkids : List Js} : FitD (n + 1) (.mk 7 mn mx ns ms kids) (.mk jk jf jt jns jkids) ↔ (∃ s ∈ kids, FitD n s (.mk jk jf jt jns jkids)) := by
  rw [FitD]
  constructor
  · rintro (h | h | h | h | h | h) <;> first | exact h.2 | (exfalso; omega)
  · intro h; exact .inr (.inr (.inr (.inr (.inl ⟨rfl, h⟩))))

set_option maxRecDepth 100000 in
set_option maxHeartbeats 8000000 in
theorem fiK7 {n : Nat} (IH : FiS n) (mn mx : Int) (ns : List ByteArray) (ms : List Bool) (kids : List Sc) (A M KA : Option Addr) (ca ma kc B0 : Nat) (jk : Int) (jf : Bool) (jt : ByteArray) (jns : List ByteArray) (jkids : List Js) (jA jK : Option Addr) (jca jkc B1 : Nat) (w : World) (hh : htS kids ≤ n) (hv : ScV w B0 ns ms kids A M KA) (hl : LimS 1048576 (.mk 7 mn mx ns ms kids)) (hok : SokP (.mk 7 mn mx ns ms kids)) (hvj : JsV w B1 jns jkids jA jK) (hlj : LimJ 1048576 (.mk jk jf jt jns jkids)) (hokj : JokP (.mk jk jf jt jns jkids)) :
    Calls Tryz.prog 47 #[.agg #[.int .i64 7, .int .i64 mn, .int .i64 mx, .slice A ns.length ca, .slice M ms.length ma, .slice KA kids.length kc], .agg #[.int .i64 jk, .bool jf, .string jt, .slice jA jns.length jca, .slice jK jkids.length jkc]] w (BoolPost (FitD (n + 1) (.mk 7 mn mx ns ms kids) (.mk jk jf jt jns jkids)) w) := by
  rw [show FitD (n + 1) (.mk 7 mn mx ns ms kids) (.mk jk jf jt jns jkids) = (∃ s ∈ kids, FitD n s (.mk jk jf jt jns jkids)) from propext fitD7]
  obtain ⟨Q, hQ⟩ : ∃ Q : Prop, Q ↔ (∃ s ∈ kids, FitD n s (.mk jk jf jt jns jkids)) := ⟨_, Iff.rfl⟩
  rw [show (∃ s ∈ kids, FitD n s (.mk jk jf jt jns jkids)) = Q from (propext hQ).symm]
  have HQ := Lib.hid hQ
  obtain ⟨W0, hW0⟩ : ∃ W0, (w.alloc (.cells #[.int .i64 7, .int .i64 mn, .int .i64 mx, .slice A ns.length ca, .slice M ms.length ma, .slice KA kids.length kc] 31)).alloc (.cells #[.int .i64 jk, .bool jf, .string jt, .slice jA jns.length jca, .slice jK jkids.length jkc] 42) = W0 := ⟨_, rfl⟩
  have HBX : Hid (Below w.heap.size w W0) := by rw [← hW0]; exact (below_box _).alloc (by simp) _
  have HOS : Hid (Own W0 w.heap.size 31 (c6 7 mn mx A ns.length ca M ms.length ma KA kids.length kc)) := by rw [← hW0]; exact (Own.new w 31 #[.int .i64 7, .int .i64 mn, .int .i64 mx, .slice A ns.length ca, .slice M ms.length ma, .slice KA kids.length kc]).alloc _
  have HOJ : Hid (Own W0 (w.heap.size + 1) 42 (c5 jk jf jt jA jns.length jca jK jkids.length jkc)) := by
    rw [← hW0]
    have := Own.new (w.alloc (.cells #[.int .i64 7, .int .i64 mn, .int .i64 mx, .slice A ns.length ca, .slice M ms.length ma, .slice KA kids.length kc] 31)) 42 #[.int .i64 jk, .bool jf, .string jt, .slice jA jns.length jca, .slice jK jkids.length jkc]
    rw [World.size_alloc] at this
    exact this
  have HV := Lib.hid (hv.keep HBX.out)
  have HVJ := Lib.hid (hvj.keep HBX.out)
  have HI := Lib.hid IH
  have HH := Lib.hid hh
  have HOK := Lib.hid hok
  have HOKJ := Lib.hid hokj
  have HLJJ := Lib.hid hlj
  cases hl with
  | mk _ _ _ _ _ _ l2 l3 lm l4 l5 lb =>
  cases hlj with
  | mk _ _ _ _ _ m1 m2 m3 m4 m5 =>
  have HL5 := Lib.hid l5
  have HM5 := Lib.hid m5
  have HW := Lib.hid hW0
  clear hQ hW0 hv hvj IH hh hok hokj l3 l5 lb m3 m5
  obtain ⟨p0, p1, p2, p3, p4, p5⟩ := c6_get HOS.out
  obtain ⟨q0, q1, q2, q3, q4⟩ := c5_get HOJ.out
  have pl := HOS.out.lt
  have ql := HOJ.out.lt
  go_enter Tryz.func47, Tryz.ntmps47
  go_upto_region 1 with fail
  rw [HW.out]
  clear HW
  go_wp2
  clear p0 p1 p2 p3 p4 p5 q0 q1 q2 q3 q4 pl ql
  go_loopw [5] (fun i wr => ∃ j : Nat, i = .int .i64 j ∧ j ≤ kids.length ∧ Hid (∀ u (h : u < kids.length), u < j → ¬ FitD n kids[u] (.mk jk jf jt jns jkids)) ∧ Hid (Below W0.heap.size W0 wr)) (fun i _ => kids.length - (intOf i).toNat)
  case atStart => exact ⟨0, rfl, by omega, fun u _ hu => by omega, Below.refl _ _⟩
  case round =>
    obtain ⟨i, rfl, hi, HU, HB⟩ := hrel
    obtain ⟨p0, p1, p2, p3, p4, p5⟩ := c6_get (HOS.out.keep HB.out)
    obtain ⟨q0, q1, q2, q3, q4⟩ := c5_get (HOJ.out.keep HB.out)
    have pl := (HOS.out.keep HB.out).lt
    have ql := (HOJ.out.keep HB.out).lt
    by_cases hik : i < kids.length
    · have hik' : (i : Int) < (kids.length : Int) := by omega
      obtain ⟨b6, off6, rfl, hp⟩ := (HV.out.k.keep HB.out).at_ hik
      have hm1 := List.getElem_mem hik
      have hlim := HL5.out _ hm1
      have hht := htS_mem hm1
      have ho1 := HOK.out.kids _ hm1
      have HUJ : Hid (¬ FitD n kids[i] (.mk jk jf jt jns jkids) → ∀ u (h : u < kids.length), u < i + 1 → ¬ FitD n kids[u] (.mk jk jf jt jns jkids)) := fun h1 u hu huj => by
        rcases Nat.lt_succ_iff_lt_or_eq.1 huj with h3 | h3
        · exact HU.out u hu h3
        · subst h3; exact h1
      have HYES : Hid (FitD n kids[i] (.mk jk jf jt jns jkids) → Q) := fun h => HQ.out.2 ⟨_, hm1, h⟩
      clear hm1
      generalize kids[i] = p at *
      obtain ⟨pk, pmn, pmx, pns, pms, pkids⟩ := p
      rw [htS_mk] at hht
      obtain ⟨PA, PM, PK, pa, pm, pc, hc, hvp⟩ := hp.open_
      obtain ⟨c0, c1, c2, c3, c4, c5, cle⟩ := hc
      have HC : Hid (∀ W, Below wr.heap.size wr W → Calls Tryz.prog 47 #[.agg #[.int .i64 pk, .int .i64 pmn, .int .i64 pmx, .slice PA pns.length pa, .slice PM pms.length pm, .slice PK pkids.length pc], .agg #[.int .i64 jk, .bool jf, .string jt, .slice jA jns.length jca, .slice jK jkids.length jkc]] W (BoolPost (FitD n (.mk pk pmn pmx pns pms pkids) (.mk jk jf jt jns jkids)) W)) := fun W hbW =>
        HI.out pk pmn pmx pns pms pkids PA PM PK pa pm pc B0 jk jf jt jns jkids jA jK jca jkc B1 W (by have := HH.out; omega) (hvp.keep hbW) hlim ho1 ((HVJ.out.keep HB.out).keep hbW) HLJJ.out HOKJ.out
      have HS : Hid (∀ X, Below wr.heap.size wr X → (fun X => X.cell? ⟨w.heap.size, 5, none⟩ = some (.slice (some ⟨b6, off6, none⟩) kids.length kc) ∧ X.cell? ⟨b6, off6 + i * 6, none⟩ = some (.int .i64 pk) ∧ X.cell? ⟨b6, off6 + i * 6 + 1, none⟩ = some (.int .i64 pmn) ∧ X.cell? ⟨b6, off6 + i * 6 + 2, none⟩ = some (.int .i64 pmx) ∧ X.cell? ⟨b6, off6 + i * 6 + 3, none⟩ = some (.slice PA pns.length pa) ∧ X.cell? ⟨b6, off6 + i * 6 + 4, none⟩ = some (.slice PM pms.length pm) ∧ X.cell? ⟨b6, off6 + i * 6 + 5, none⟩ = some (.slice PK pkids.length pc) ∧ X.cell? ⟨w.heap.size + 1, 0, none⟩ = some (.int .i64 jk) ∧ X.cell? ⟨w.heap.size + 1, 1, none⟩ = some (.bool jf) ∧ X.cell? ⟨w.heap.size + 1, 2, none⟩ = some (.string jt) ∧ X.cell? ⟨w.heap.size + 1, 3, none⟩ = some (.slice jA jns.length jca) ∧ X.cell? ⟨w.heap.size + 1, 4, none⟩ = some (.slice jK jkids.length jkc)) X) := fun X h => ⟨cell_keep h p5, cell_keep h c0, cell_keep h c1, cell_keep h c2, cell_keep h c3, cell_keep h c4, cell_keep h c5, cell_keep h q0, cell_keep h q1, cell_keep h q2, cell_keep h q3, cell_keep h q4⟩
      go_upto_region 16 with fail
      clear hp hvp hlim hht ho1 cle p0 p1 p2 p3 p4 p5 q0 q1 q2 q3 q4 c0 c1 c2 c3 c4 c5
      refine wp_region_held_drew (S := (fun X => X.cell? ⟨w.heap.size, 5, none⟩ = some (.slice (some ⟨b6, off6, none⟩) kids.length kc) ∧ X.cell? ⟨b6, off6 + i * 6, none⟩ = some (.int .i64 pk) ∧ X.cell? ⟨b6, off6 + i * 6 + 1, none⟩ = some (.int .i64 pmn) ∧ X.cell? ⟨b6, off6 + i * 6 + 2, none⟩ = some (.int .i64 pmx) ∧ X.cell? ⟨b6, off6 + i * 6 + 3, none⟩ = some (.slice PA pns.length pa) ∧ X.cell? ⟨b6, off6 + i * 6 + 4, none⟩ = some (.slice PM pms.length pm) ∧ X.cell? ⟨b6, off6 + i * 6 + 5, none⟩ = some (.slice PK pkids.length pc) ∧ X.cell? ⟨w.heap.size + 1, 0, none⟩ = some (.int .i64 jk) ∧ X.cell? ⟨w.heap.size + 1, 1, none⟩ = some (.bool jf) ∧ X.cell? ⟨w.heap.size + 1, 2, none⟩ = some (.string jt) ∧ X.cell? ⟨w.heap.size + 1, 3, none⟩ = some (.slice jA jns.length jca) ∧ X.cell? ⟨w.heap.size + 1, 4, none⟩ = some (.slice jK jkids.length jkc))) (by kernel_rfl) ?_ (fun hHeld => ?_)
      · exact HS.out _ (Below.refl _ _).drew
      (first
        | (refine held_take (i := 0) (v := ?_) rfl (by kernel_rfl) (by kernel_rfl) (by kernel_rfl) (fun _ _ _ h => h) (Or.inl ⟨rfl, ?_⟩) (by assumption) ?_; rotate_left; (intro X hSw; (try dsimp only at hSw); (go_simp <;> with_reducible rfl)))
        | (refine held_take (i := 0) (v := undef) rfl (by kernel_rfl) (by kernel_rfl) (by kernel_rfl) (fun _ _ _ h => h) (Or.inr ⟨rfl, rfl⟩) (by assumption) ?_)); simp only [Act.put, List.setIfInBounds_toArray, List.set_cons_zero, List.set_cons_succ]
      (first
        | (refine held_take (i := 1) (v := ?_) rfl (by kernel_rfl) (by kernel_rfl) (by kernel_rfl) (fun _ _ _ h => h) (Or.inl ⟨rfl, ?_⟩) (by assumption) ?_; rotate_left; (intro X hSw; (try dsimp only at hSw); (go_simp <;> with_reducible rfl)))
        | (refine held_take (i := 1) (v := undef) rfl (by kernel_rfl) (by kernel_rfl) (by kernel_rfl) (fun _ _ _ h => h) (Or.inr ⟨rfl, rfl⟩) (by assumption) ?_)); simp only [Act.put, List.setIfInBounds_toArray, List.set_cons_zero, List.set_cons_succ]
      (first
        | (refine held_take (i := 2) (v := ?_) rfl (by kernel_rfl) (by kernel_rfl) (by kernel_rfl) (fun _ _ _ h => h) (Or.inl ⟨rfl, ?_⟩) (by assumption) ?_; rotate_left; (intro X hSw; (try dsimp only at hSw); (go_simp <;> with_reducible rfl)))
        | (refine held_take (i := 2) (v := undef) rfl (by kernel_rfl) (by kernel_rfl) (by kernel_rfl) (fun _ _ _ h => h) (Or.inr ⟨rfl, rfl⟩) (by assumption) ?_)); simp only [Act.put, List.setIfInBounds_toArray, List.set_cons_zero, List.set_cons_succ]
      (first
        | (refine held_take (i := 3) (v := ?_) rfl (by kernel_rfl) (by kernel_rfl) (by kernel_rfl) (fun _ _ _ h => h) (Or.inl ⟨rfl, ?_⟩) (by assumption) ?_; rotate_left; (intro X hSw; (try dsimp only at hSw); (go_simp <;> with_reducible rfl)))
        | (refine held_take (i := 3) (v := undef) rfl (by kernel_rfl) (by kernel_rfl) (by kernel_rfl) (fun _ _ _ h => h) (Or.inr ⟨rfl, rfl⟩) (by assumption) ?_)); simp only [Act.put, List.setIfInBounds_toArray, List.set_cons_zero, List.set_cons_succ]
      (first
        | (refine held_take (i := 4) (v := ?_) rfl (by kernel_rfl) (by kernel_rfl) (by kernel_rfl) (fun _ _ _ h => h) (Or.inl ⟨rfl, ?_⟩) (by assumption) ?_; rotate_left; (intro X hSw; (try dsimp only at hSw); (go_simp <;> with_reducible rfl)))
        | (refine held_take (i := 4) (v := undef) rfl (by kernel_rfl) (by kernel_rfl) (by kernel_rfl) (fun _ _ _ h => h) (Or.inr ⟨rfl, rfl⟩) (by assumption) ?_)); simp only [Act.put, List.setIfInBounds_toArray, List.set_cons_zero, List.set_cons_succ]
      (first
        | (refine held_take (i := 5) (v := ?_) rfl (by kernel_rfl) (by kernel_rfl) (by kernel_rfl) (fun _ _ _ h => h) (Or.inl ⟨rfl, ?_⟩) (by assumption) ?_; rotate_left; (intro X hSw; (try dsimp only at hSw); (go_simp <;> with_reducible rfl)))
        | (refine held_take (i := 5) (v := undef) rfl (by kernel_rfl) (by kernel_rfl) (by kernel_rfl) (fun _ _ _ h => h) (Or.inr ⟨rfl, rfl⟩) (by assumption) ?_)); simp only [Act.put, List.setIfInBounds_toArray, List.set_cons_zero, List.set_cons_succ]
      refine wpAnyH_ready (rs := [6]) (by kernel_rfl) (by simp) ?_
      refine AllReadyH.cons rfl (fun K hK => ?_) AllReadyH.nil
      go_simp
      refine (HC.out _ (Below.refl _ _).drew).mono ?_
      rintro e w2 ⟨r, rfl, hr, hb2⟩
      have HB2 : Hid (Below wr.heap.size wr w2) := (Below.refl wr.heap.size wr).drew.trans hb2
      have HR2 := Lib.hid hr
      clear hr hb2 hHeld
      refine hK.out _ _ ?_ (fun hHeld => ?_)
      · exact HS.out _ HB2.out
      clear hK K
      have HB3 := Lib.hid (HB.out.trans (HB2.out.mono HB.out.size))
      cases r
      · have HU2 := Lib.hid (HUJ.out (fun h => by have := HR2.out.2 h; cases this))
        clear HU HUJ HYES
        refine wpAnyH_done (by kernel_rfl) ?_ _
        go_wp2
        go_roundw
        case rel => exact ⟨i + 1, by go_num, by omega, HU2, HB3⟩
        case measure => simp [intOf]; omega
      · have HT : Hid Q := HYES.out (by first | exact HR2.out.1 rfl | exact HR2.out.1 trivial)
        refine wpAnyH_done (by kernel_rfl) ?_ _
        go_wp2
        go_ret
        exact ⟨true, rfl, iffT HT.out, HBX.out.trans (HB3.out.mono HBX.out.size)⟩
    · have hik' : ¬ (i : Int) < (kids.length : Int) := by omega
      have HF : Hid (¬ Q) := fun h => by
        obtain ⟨s, hs, hf⟩ := HQ.out.1 h
        obtain ⟨u, hu, rfl⟩ := List.getElem_of_mem hs
        exact HU.out u hu (by omega) hf
      go_wp2
      go_ret
      exact ⟨false, rfl, iffF HF.out, HBX.out.trans (HB.out.mono HBX.out.size)⟩

theorem fitD8 {n : Nat} {mn mx : Int} {ns : List ByteArray} {ms : List Bool} {kids : List Sc} {jk : Int} {jf : Bool} {jt : ByteArray} {jns : List ByteArray} {jkids : List Js} : FitD (n + 1) (.mk 8 mn mx ns ms kids) (.mk jk jf jt jns jkids) ↔ (jk = 4 ∧ jt ∈ ns) := by
  rw [FitD]
  constructor
  · rintro (h | h | h | h | h | h) <;> first | exact h.2 | (exfalso; omega)
  · intro h; exact .inr (.inr (.inr (.inr (.inr ⟨rfl, h⟩))))

set_option maxRecDepth 100000 in
set_option maxHeartbeats 8000000 in
theorem fiK8 {n : Nat} (IH : FiS n) (mn mx : Int) (ns : List ByteArray) (ms : List Bool) (kids : List Sc) (A M KA : Option Addr) (ca ma kc B0 : Nat) (jk : Int) (jf : Bool) (jt : ByteArray) (jns : List ByteArray) (jkids : List Js) (jA jK : Option Addr) (jca jkc B1 : Nat) (w : World) (hh : htS kids ≤ n) (hv : ScV w B0 ns ms kids A M KA) (hl : LimS 1048576 (.mk 8 mn mx ns ms kids)) (hok : SokP (.mk 8 mn mx ns ms kids)) (hvj : JsV w B1 jns jkids jA jK) (hlj : LimJ 1048576 (.mk jk jf jt jns jkids)) (hokj : JokP (.mk jk jf jt jns jkids)) :
    Calls Tryz.prog 47 #[.agg #[.int .i64 8, .int .i64 mn, .int .i64 mx, .slice A ns.length ca, .slice M ms.length ma, .slice KA kids.length kc], .agg #[.int .i64 jk, .bool jf, .string jt, .slice jA jns.length jca, .slice jK jkids.length jkc]] w (BoolPost (FitD (n + 1) (.mk 8 mn mx ns ms kids) (.mk jk jf jt jns jkids)) w) := by
  rw [show FitD (n + 1) (.mk 8 mn mx ns ms kids) (.mk jk jf jt jns jkids) = (jk = 4 ∧ jt ∈ ns) from propext fitD8]
  obtain ⟨Q, hQ⟩ : ∃ Q : Prop, Q ↔ (jk = 4 ∧ jt ∈ ns) := ⟨_, Iff.rfl⟩
  rw [show (jk = 4 ∧ jt ∈ ns) = Q from (propext hQ).symm]
  have HQ := Lib.hid hQ
  obtain ⟨W0, hW0⟩ : ∃ W0, (w.alloc (.cells #[.int .i64 8, .int .i64 mn, .int .i64 mx, .slice A ns.length ca, .slice M ms.length ma, .slice KA kids.length kc] 31)).alloc (.cells #[.int .i64 jk, .bool jf, .string jt, .slice jA jns.length jca, .slice jK jkids.length jkc] 42) = W0 := ⟨_, rfl⟩
  have HBX : Hid (Below w.heap.size w W0) := by rw [← hW0]; exact (below_box _).alloc (by simp) _
  have HOS : Hid (Own W0 w.heap.size 31 (c6 8 mn mx A ns.length ca M ms.length ma KA kids.length kc)) := by rw [← hW0]; exact (Own.new w 31 #[.int .i64 8, .int .i64 mn, .int .i64 mx, .slice A ns.length ca, .slice M ms.length ma, .slice KA kids.length kc]).alloc _
  have HOJ : Hid (Own W0 (w.heap.size + 1) 42 (c5 jk jf jt jA jns.length jca jK jkids.length jkc)) := by
    rw [← hW0]
    have := Own.new (w.alloc (.cells #[.int .i64 8, .int .i64 mn, .int .i64 mx, .slice A ns.length ca, .slice M ms.length ma, .slice KA kids.length kc] 31)) 42 #[.int .i64 jk, .bool jf, .string jt, .slice jA jns.length jca, .slice jK jkids.length jkc]
    rw [World.size_alloc] at this
    exact this
  have HV := Lib.hid (hv.keep HBX.out)
  have HVJ := Lib.hid (hvj.keep HBX.out)
  have HI := Lib.hid IH
  have HH := Lib.hid hh
  have HOK := Lib.hid hok
  have HOKJ := Lib.hid hokj
  have HLJJ := Lib.hid hlj
  cases hl with
  | mk _ _ _ _ _ _ l2 l3 lm l4 l5 lb =>
  cases hlj with
  | mk _ _ _ _ _ m1 m2 m3 m4 m5 =>
  have HL5 := Lib.hid l5
  have HM5 := Lib.hid m5
  have HW := Lib.hid hW0
  clear hQ hW0 hv hvj IH hh hok hokj l3 l5 lb m3 m5
  obtain ⟨p0, p1, p2, p3, p4, p5⟩ := c6_get HOS.out
  obtain ⟨q0, q1, q2, q3, q4⟩ := c5_get HOJ.out
  have pl := HOS.out.lt
  have ql := HOJ.out.lt
  go_enter Tryz.func47, Tryz.ntmps47
  go_upto_region 1 with fail
  rw [HW.out]
  clear HW
  by_cases e : jk = 4
  · have e' : (jk == 4) = true := by simp [e]
    have HE := Lib.hid e
    clear e
    go_wp2_with fail
    refine (l32Has_any ns A ca jt _ HV.out.a l2).mono ?_
    rintro e w2 ⟨r, rfl, hr, hb⟩
    have HR := Lib.hid hr
    have HB := Lib.hid (HBX.out.trans (hb.mono HBX.out.size))
    clear hr hb p0 p1 p2 p3 p4 p5 q0 q1 q2 q3 q4 pl ql
    go_wp2
    go_ret
    refine ⟨r, rfl, ?_, HB.out⟩
    rw [HQ.out, HR.out]
    exact ⟨fun h => ⟨HE.out, h⟩, fun h => h.2⟩
  · have e' : (jk == 4) = false := by simp [e]
    have HF : Hid (¬ Q) := fun h => e (HQ.out.1 h).1
    clear e
    go_wp2
    go_ret
    exact ⟨false, rfl, iffF HF.out, HBX.out⟩

theorem fiStep {n : Nat} (IH : FiS n) : FiS (n + 1) := by
  intro k mn mx ns ms kids A M KA ca ma kc B0 jk jf jt jns jkids jA jK jca jkc B1 w hh hv hl hok hvj hlj hokj
  by_cases k1 : k = 1
  · subst k1; exact fiK1 IH mn mx ns ms kids A M KA ca ma kc B0 jk jf jt jns jkids jA jK jca jkc B1 w (by omega) hv hl hok hvj hlj hokj
  by_cases k2 : k = 2
  · subst k2; exact fiK2 IH mn mx ns ms kids A M KA ca ma kc B0 jk jf jt jns jkids jA jK jca jkc B1 w (by omega) hv hl hok hvj hlj hokj
  by_cases k3 : k = 3
  · subst k3; exact fiK3 IH mn mx ns ms kids A M KA ca ma kc B0 jk jf jt jns jkids jA jK jca jkc B1 w (by omega) hv hl hok hvj hlj hokj
  by_cases k4 : k = 4
  · subst k4; exact fiK4 IH mn mx ns ms kids A M KA ca ma kc B0 jk jf jt jns jkids jA jK jca jkc B1 w (by omega) hv hl hok hvj hlj hokj
  by_cases k5 : k = 5
  · subst k5; exact fiK5 IH mn mx ns ms kids A M KA ca ma kc B0 jk jf jt jns jkids jA jK jca jkc B1 w (by omega) hv hl hok hvj hlj hokj
  by_cases k6 : k = 6
  · subst k6; exact fiK6 IH mn mx ns ms kids A M KA ca ma kc B0 jk jf jt jns jkids jA jK jca jkc B1 w (by omega) hv hl hok hvj hlj hokj
  by_cases k7 : k = 7
  · subst k7; exact fiK7 IH mn mx ns ms kids A M KA ca ma kc B0 jk jf jt jns jkids jA jK jca jkc B1 w (by omega) hv hl hok hvj hlj hokj
  by_cases k8 : k = 8
  · subst k8; exact fiK8 IH mn mx ns ms kids A M KA ca ma kc B0 jk jf jt jns jkids jA jK jca jkc B1 w (by omega) hv hl hok hvj hlj hokj
  have h := hok.one
  unfold SoneP at h
  exfalso
  rcases h with h | h | h | h | h | h <;> omega
theorem fi_all : ∀ n, FiS n
  | 0 => by intro k mn mx ns ms kids A M KA ca ma kc B0 jk jf jt jns jkids jA jK jca jkc B1 w hh; omega
  | n + 1 => fiStep (fi_all n)

end Go.Proofs.YtkhcappjhefkjaaGreatDoor

