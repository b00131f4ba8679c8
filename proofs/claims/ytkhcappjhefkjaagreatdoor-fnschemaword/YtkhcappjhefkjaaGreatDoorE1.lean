/- The program's methods fitsNull to fitsText, fitsOne. (written by gen_e1.py) -/
import Derived.Test.YtkhcappjhefkjaaGreatDoorG2
import Derived.Test.YtkhcappjhefkjaaGreatDoorJ10
namespace Go.Proofs.YtkhcappjhefkjaaGreatDoor
open Go.RowKit
set_option linter.unusedVariables false

/-- (impl.Schema).fits, of schemas that are at most so high. -/
def GiS (n : Nat) : Prop := ∀ (k mn mx : Int) (ns : List ByteArray) (ms : List Bool) (kids : List Sc) (A M KA : Option Addr) (ca ma kc B0 : Nat) (jk : Int) (jf : Bool) (jt : ByteArray) (jns : List ByteArray) (jkids : List Js) (jA jK : Option Addr) (jca jkc B1 : Nat) (w : World), htS kids + 1 ≤ n → ScV w B0 ns ms kids A M KA → LimS 1048576 (.mk k mn mx ns ms kids) → SokP (.mk k mn mx ns ms kids) → JsV w B1 jns jkids jA jK → LimJ 1048576 (.mk jk jf jt jns jkids) → JokP (.mk jk jf jt jns jkids) →
  Calls Tryz.prog 49 #[.agg #[.int .i64 k, .int .i64 mn, .int .i64 mx, .slice A ns.length ca, .slice M ms.length ma, .slice KA kids.length kc], .agg #[.int .i64 jk, .bool jf, .string jt, .slice jA jns.length jca, .slice jK jkids.length jkc]] w (BoolPost (FitD n (.mk k mn mx ns ms kids) (.mk jk jf jt jns jkids)) w)

set_option maxHeartbeats 1000000 in
theorem allows_any (k mn mx : Int) (A M K : Option Addr) (la ca lm ma lk kc : Nat) (x : Int) (w : World) :
    Calls Tryz.prog 132 #[.agg #[.int .i64 k, .int .i64 mn, .int .i64 mx, .slice A la ca, .slice M lm ma, .slice K lk kc], .int .i64 x] w (BoolPost (mn ≤ x ∧ x ≤ mx) w) := by
  obtain ⟨Q, hQ⟩ : ∃ Q : Prop, Q ↔ (mn ≤ x ∧ x ≤ mx) := ⟨_, Iff.rfl⟩
  rw [show (mn ≤ x ∧ x ≤ mx) = Q from (propext hQ).symm]
  have HQ := Lib.hid hQ
  clear hQ
  by_cases h1 : mn ≤ x
  · by_cases h2 : x ≤ mx
    · have HT : Hid Q := HQ.out.2 ⟨h1, h2⟩
      go_enter Tryz.func132, Tryz.ntmps132
      go_wp2
      go_ret
      exact ⟨true, rfl, iffT HT.out, below_box _⟩
    · have HF : Hid (¬ Q) := fun h => h2 (HQ.out.1 h).2
      go_enter Tryz.func132, Tryz.ntmps132
      go_wp2
      go_ret
      exact ⟨false, rfl, iffF HF.out, below_box _⟩
  · have HF : Hid (¬ Q) := fun h => h1 (HQ.out.1 h).1
    go_enter Tryz.func132, Tryz.ntmps132
    go_wp2
    go_ret
    exact ⟨false, rfl, iffF HF.out, below_box _⟩

set_option maxRecDepth 100000 in
set_option maxHeartbeats 8000000 in
theorem fitsNull_any (mn mx : Int) (ns : List ByteArray) (ms : List Bool) (kids : List Sc) (A M KA : Option Addr) (ca ma kc B0 : Nat) (jk : Int) (jf : Bool) (jt : ByteArray) (jns : List ByteArray) (jkids : List Js) (jA jK : Option Addr) (jca jkc B1 : Nat) (w : World) (hv : ScV w B0 ns ms kids A M KA) (hl : LimS 1048576 (.mk 1 mn mx ns ms kids)) (hok : SokP (.mk 1 mn mx ns ms kids)) (hvj : JsV w B1 jns jkids jA jK) (hlj : LimJ 1048576 (.mk jk jf jt jns jkids)) (hokj : JokP (.mk jk jf jt jns jkids)) :
    Calls Tryz.prog 90 #[.agg #[.int .i64 1, .int .i64 mn, .int .i64 mx, .slice A ns.length ca, .slice M ms.length ma, .slice KA kids.length kc], .agg #[.int .i64 jk, .bool jf, .string jt, .slice jA jns.length jca, .slice jK jkids.length jkc]] w (BoolPost (jk = 1) w) := by
  obtain ⟨Q, hQ⟩ : ∃ Q : Prop, Q ↔ (jk = 1) := ⟨_, Iff.rfl⟩
  rw [show (jk = 1) = Q from (propext hQ).symm]
  have HQ := Lib.hid hQ
  obtain ⟨W0, hW0⟩ : ∃ W0, (w.alloc (.cells #[.int .i64 1, .int .i64 mn, .int .i64 mx, .slice A ns.length ca, .slice M ms.length ma, .slice KA kids.length kc] 31)).alloc (.cells #[.int .i64 jk, .bool jf, .string jt, .slice jA jns.length jca, .slice jK jkids.length jkc] 42) = W0 := ⟨_, rfl⟩
  have HBX : Hid (Below w.heap.size w W0) := by rw [← hW0]; exact (below_box _).alloc (by simp) _
  have HOS : Hid (Own W0 w.heap.size 31 (c6 1 mn mx A ns.length ca M ms.length ma KA kids.length kc)) := by rw [← hW0]; exact (Own.new w 31 #[.int .i64 1, .int .i64 mn, .int .i64 mx, .slice A ns.length ca, .slice M ms.length ma, .slice KA kids.length kc]).alloc _
  have HOJ : Hid (Own W0 (w.heap.size + 1) 42 (c5 jk jf jt jA jns.length jca jK jkids.length jkc)) := by
    rw [← hW0]
    have := Own.new (w.alloc (.cells #[.int .i64 1, .int .i64 mn, .int .i64 mx, .slice A ns.length ca, .slice M ms.length ma, .slice KA kids.length kc] 31)) 42 #[.int .i64 jk, .bool jf, .string jt, .slice jA jns.length jca, .slice jK jkids.length jkc]
    rw [World.size_alloc] at this
    exact this
  have HV := Lib.hid (hv.keep HBX.out)
  have HVJ := Lib.hid (hvj.keep HBX.out)
  have HOK := Lib.hid hok
  have HOKJ := Lib.hid hokj
  have HLJJ := Lib.hid hlj
  cases hl with
  | mk _ _ _ _ _ _ l2 l3 lm l4 l5 lb =>
  cases hlj with
  | mk _ _ _ _ _ m1 m2 m3 m4 m5 =>
  have HL5 := Lib.hid l5
  have HM5 := Lib.hid m5
  have HW := Lib.hid hW0
  clear hQ hW0 hv hvj hok hokj l3 l5 lb m3 m5
  obtain ⟨p0, p1, p2, p3, p4, p5⟩ := c6_get HOS.out
  obtain ⟨q0, q1, q2, q3, q4⟩ := c5_get HOJ.out
  have pl := HOS.out.lt
  have ql := HOJ.out.lt
  go_enter Tryz.func90, Tryz.ntmps90
  go_upto_region 1 with fail
  rw [HW.out]
  clear HW
  go_wp2
  go_ret
  refine ⟨_, rfl, ?_, HBX.out⟩
  rw [HQ.out, beq_iff_eq]

set_option maxRecDepth 100000 in
set_option maxHeartbeats 8000000 in
theorem fitsFlag_any (mn mx : Int) (ns : List ByteArray) (ms : List Bool) (kids : List Sc) (A M KA : Option Addr) (ca ma kc B0 : Nat) (jk : Int) (jf : Bool) (jt : ByteArray) (jns : List ByteArray) (jkids : List Js) (jA jK : Option Addr) (jca jkc B1 : Nat) (w : World) (hv : ScV w B0 ns ms kids A M KA) (hl : LimS 1048576 (.mk 2 mn mx ns ms kids)) (hok : SokP (.mk 2 mn mx ns ms kids)) (hvj : JsV w B1 jns jkids jA jK) (hlj : LimJ 1048576 (.mk jk jf jt jns jkids)) (hokj : JokP (.mk jk jf jt jns jkids)) :
    Calls Tryz.prog 93 #[.agg #[.int .i64 2, .int .i64 mn, .int .i64 mx, .slice A ns.length ca, .slice M ms.length ma, .slice KA kids.length kc], .agg #[.int .i64 jk, .bool jf, .string jt, .slice jA jns.length jca, .slice jK jkids.length jkc]] w (BoolPost (jk = 2) w) := by
  obtain ⟨Q, hQ⟩ : ∃ Q : Prop, Q ↔ (jk = 2) := ⟨_, Iff.rfl⟩
  rw [show (jk = 2) = Q from (propext hQ).symm]
  have HQ := Lib.hid hQ
  obtain ⟨W0, hW0⟩ : ∃ W0, (w.alloc (.cells #[.int .i64 2, .int .i64 mn, .int .i64 mx, .slice A ns.length ca, .slice M ms.length ma, .slice KA kids.length kc] 31)).alloc (.cells #[.int .i64 jk, .bool jf, .string jt, .slice jA jns.length jca, .slice jK jkids.length jkc] 42) = W0 := ⟨_, rfl⟩
  have HBX : Hid (Below w.heap.size w W0) := by rw [← hW0]; exact (below_box _).alloc (by simp) _
  have HOS : Hid (Own W0 w.heap.size 31 (c6 2 mn mx A ns.length ca M ms.length ma KA kids.length kc)) := by rw [← hW0]; exact (Own.new w 31 #[.int .i64 2, .int .i64 mn, .int .i64 mx, .slice A ns.length ca, .slice M ms.length ma, .slice KA kids.length kc]).alloc _
  have HOJ : Hid (Own W0 (w.heap.size + 1) 42 (c5 jk jf jt jA jns.length jca jK jkids.length jkc)) := by
    rw [← hW0]
    have := Own.new (w.alloc (.cells #[.int .i64 2, .int .i64 mn, .int .i64 mx, .slice A ns.length ca, .slice M ms.length ma, .slice KA kids.length kc] 31)) 42 #[.int .i64 jk, .bool jf, .string jt, .slice jA jns.length jca, .slice jK jkids.length jkc]
    rw [World.size_alloc] at this
    exact this
  have HV := Lib.hid (hv.keep HBX.out)
  have HVJ := Lib.hid (hvj.keep HBX.out)
  have HOK := Lib.hid hok
  have HOKJ := Lib.hid hokj
  have HLJJ := Lib.hid hlj
  cases hl with
  | mk _ _ _ _ _ _ l2 l3 lm l4 l5 lb =>
  cases hlj with
  | mk _ _ _ _ _ m1 m2 m3 m4 m5 =>
  have HL5 := Lib.hid l5
  have HM5 := Lib.hid m5
  have HW := Lib.hid hW0
  clear hQ hW0 hv hvj hok hokj l3 l5 lb m3 m5
  obtain ⟨p0, p1, p2, p3, p4, p5⟩ := c6_get HOS.out
  obtain ⟨q0, q1, q2, q3, q4⟩ := c5_get HOJ.out
  have pl := HOS.out.lt
  have ql := HOJ.out.lt
  go_enter Tryz.func93, Tryz.ntmps93
  go_upto_region 1 with fail
  rw [HW.out]
  clear HW
  go_wp2
  go_ret
  refine ⟨_, rfl, ?_, HBX.out⟩
  rw [HQ.out, beq_iff_eq]

set_option maxRecDepth 100000 in
set_option maxHeartbeats 8000000 in
theorem fitsNum_any (mn mx : Int) (ns : List ByteArray) (ms : List Bool) (kids : List Sc) (A M KA : Option Addr) (ca ma kc B0 : Nat) (jk : Int) (jf : Bool) (jt : ByteArray) (jns : List ByteArray) (jkids : List Js) (jA jK : Option Addr) (jca jkc B1 : Nat) (w : World) (hv : ScV w B0 ns ms kids A M KA) (hl : LimS 1048576 (.mk 3 mn mx ns ms kids)) (hok : SokP (.mk 3 mn mx ns ms kids)) (hvj : JsV w B1 jns jkids jA jK) (hlj : LimJ 1048576 (.mk jk jf jt jns jkids)) (hokj : JokP (.mk jk jf jt jns jkids)) :
    Calls Tryz.prog 96 #[.agg #[.int .i64 3, .int .i64 mn, .int .i64 mx, .slice A ns.length ca, .slice M ms.length ma, .slice KA kids.length kc], .agg #[.int .i64 jk, .bool jf, .string jt, .slice jA jns.length jca, .slice jK jkids.length jkc]] w (BoolPost (jk = 3) w) := by
  obtain ⟨Q, hQ⟩ : ∃ Q : Prop, Q ↔ (jk = 3) := ⟨_, Iff.rfl⟩
  rw [show (jk = 3) = Q from (propext hQ).symm]
  have HQ := Lib.hid hQ
  obtain ⟨W0, hW0⟩ : ∃ W0, (w.alloc (.cells #[.int .i64 3, .int .i64 mn, .int .i64 mx, .slice A ns.length ca, .slice M ms.length ma, .slice KA kids.length kc] 31)).alloc (.cells #[.int .i64 jk, .bool jf, .string jt, .slice jA jns.length jca, .slice jK jkids.length jkc] 42) = W0 := ⟨_, rfl⟩
  have HBX : Hid (Below w.heap.size w W0) := by rw [← hW0]; exact (below_box _).alloc (by simp) _
  have HOS : Hid (Own W0 w.heap.size 31 (c6 3 mn mx A ns.length ca M ms.length ma KA kids.length kc)) := by rw [← hW0]; exact (Own.new w 31 #[.int .i64 3, .int .i64 mn, .int .i64 mx, .slice A ns.length ca, .slice M ms.length ma, .slice KA kids.length kc]).alloc _
  have HOJ : Hid (Own W0 (w.heap.size + 1) 42 (c5 jk jf jt jA jns.length jca jK jkids.length jkc)) := by
    rw [← hW0]
    have := Own.new (w.alloc (.cells #[.int .i64 3, .int .i64 mn, .int .i64 mx, .slice A ns.length ca, .slice M ms.length ma, .slice KA kids.length kc] 31)) 42 #[.int .i64 jk, .bool jf, .string jt, .slice jA jns.length jca, .slice jK jkids.length jkc]
    rw [World.size_alloc] at this
    exact this
  have HV := Lib.hid (hv.keep HBX.out)
  have HVJ := Lib.hid (hvj.keep HBX.out)
  have HOK := Lib.hid hok
  have HOKJ := Lib.hid hokj
  have HLJJ := Lib.hid hlj
  cases hl with
  | mk _ _ _ _ _ _ l2 l3 lm l4 l5 lb =>
  cases hlj with
  | mk _ _ _ _ _ m1 m2 m3 m4 m5 =>
  have HL5 := Lib.hid l5
  have HM5 := Lib.hid m5
  have HW := Lib.hid hW0
  clear hQ hW0 hv hvj hok hokj l3 l5 lb m3 m5
  obtain ⟨p0, p1, p2, p3, p4, p5⟩ := c6_get HOS.out
  obtain ⟨q0, q1, q2, q3, q4⟩ := c5_get HOJ.out
  have pl := HOS.out.lt
  have ql := HOJ.out.lt
  go_enter Tryz.func96, Tryz.ntmps96
  go_upto_region 1 with fail
  rw [HW.out]
  clear HW
  go_wp2
  go_ret
  refine ⟨_, rfl, ?_, HBX.out⟩
  rw [HQ.out, beq_iff_eq]

set_option maxRecDepth 100000 in
set_option maxHeartbeats 8000000 in
theorem fitsText_any (mn mx : Int) (ns : List ByteArray) (ms : List Bool) (kids : List Sc) (A M KA : Option Addr) (ca ma kc B0 : Nat) (jk : Int) (jf : Bool) (jt : ByteArray) (jns : List ByteArray) (jkids : List Js) (jA jK : Option Addr) (jca jkc B1 : Nat) (w : World) (hv : ScV w B0 ns ms kids A M KA) (hl : LimS 1048576 (.mk 4 mn mx ns ms kids)) (hok : SokP (.mk 4 mn mx ns ms kids)) (hvj : JsV w B1 jns jkids jA jK) (hlj : LimJ 1048576 (.mk jk jf jt jns jkids)) (hokj : JokP (.mk jk jf jt jns jkids)) :
    Calls Tryz.prog 100 #[.agg #[.int .i64 4, .int .i64 mn, .int .i64 mx, .slice A ns.length ca, .slice M ms.length ma, .slice KA kids.length kc], .agg #[.int .i64 jk, .bool jf, .string jt, .slice jA jns.length jca, .slice jK jkids.length jkc]] w (BoolPost (jk = 4 ∧ mn ≤ (jt.size : Int) ∧ (jt.size : Int) ≤ mx) w) := by
  obtain ⟨Q, hQ⟩ : ∃ Q : Prop, Q ↔ (jk = 4 ∧ mn ≤ (jt.size : Int) ∧ (jt.size : Int) ≤ mx) := ⟨_, Iff.rfl⟩
  rw [show (jk = 4 ∧ mn ≤ (jt.size : Int) ∧ (jt.size : Int) ≤ mx) = Q from (propext hQ).symm]
  have HQ := Lib.hid hQ
  obtain ⟨W0, hW0⟩ : ∃ W0, (w.alloc (.cells #[.int .i64 4, .int .i64 mn, .int .i64 mx, .slice A ns.length ca, .slice M ms.length ma, .slice KA kids.length kc] 31)).alloc (.cells #[.int .i64 jk, .bool jf, .string jt, .slice jA jns.length jca, .slice jK jkids.length jkc] 42) = W0 := ⟨_, rfl⟩
  have HBX : Hid (Below w.heap.size w W0) := by rw [← hW0]; exact (below_box _).alloc (by simp) _
  have HOS : Hid (Own W0 w.heap.size 31 (c6 4 mn mx A ns.length ca M ms.length ma KA kids.length kc)) := by rw [← hW0]; exact (Own.new w 31 #[.int .i64 4, .int .i64 mn, .int .i64 mx, .slice A ns.length ca, .slice M ms.length ma, .slice KA kids.length kc]).alloc _
  have HOJ : Hid (Own W0 (w.heap.size + 1) 42 (c5 jk jf jt jA jns.length jca jK jkids.length jkc)) := by
    rw [← hW0]
    have := Own.new (w.alloc (.cells #[.int .i64 4, .int .i64 mn, .int .i64 mx, .slice A ns.length ca, .slice M ms.length ma, .slice KA kids.length kc] 31)) 42 #[.int .i64 jk, .bool jf, .string jt, .slice jA jns.length jca, .slice jK jkids.length jkc]
    rw [World.size_alloc] at this
    exact this
  have HV := Lib.hid (hv.keep HBX.out)
  have HVJ := Lib.hid (hvj.keep HBX.out)
  have HOK := Lib.hid hok
  have HOKJ := Lib.hid hokj
  have HLJJ := Lib.hid hlj
  cases hl with
  | mk _ _ _ _ _ _ l2 l3 lm l4 l5 lb =>
  cases hlj with
  | mk _ _ _ _ _ m1 m2 m3 m4 m5 =>
  have HL5 := Lib.hid l5
  have HM5 := Lib.hid m5
  have HW := Lib.hid hW0
  clear hQ hW0 hv hvj hok hokj l3 l5 lb m3 m5
  obtain ⟨p0, p1, p2, p3, p4, p5⟩ := c6_get HOS.out
  obtain ⟨q0, q1, q2, q3, q4⟩ := c5_get HOJ.out
  have pl := HOS.out.lt
  have ql := HOJ.out.lt
  go_enter Tryz.func100, Tryz.ntmps100
  go_upto_region 1 with fail
  rw [HW.out]
  clear HW
  by_cases e : jk = 4
  · have e' : (jk == 4) = true := by simp [e]
    have HE := Lib.hid e
    clear e
    go_wp2_with fail
    refine (allows_any 4 mn mx A M KA ns.length ca ms.length ma kids.length kc (jt.size : Int) _).mono ?_
    rintro e w2 ⟨r, rfl, hr, hb⟩
    have HR := Lib.hid hr
    have HB := Lib.hid (HBX.out.trans (hb.mono HBX.out.size))
    clear hr hb p0 p1 p2 p3 p4 p5 q0 q1 q2 q3 q4 pl ql
    go_wp2
    go_ret
    refine ⟨r, rfl, ?_, HB.out⟩
    rw [HQ.out, HR.out]
    exact ⟨fun h => ⟨HE.out, h⟩, fun h => h.2⟩
  · have e' : (jk == 4) = false := by simp [e]
    have HF : Hid (¬ Q) := fun h => e (HQ.out.1 h).1
    clear e
    go_wp2
    go_ret
    exact ⟨false, rfl, iffF HF.out, HBX.out⟩

set_option maxRecDepth 100000 in
set_option maxHeartbeats 8000000 in
theorem fitsOne_any (mn mx : Int) (ns : List ByteArray) (ms : List Bool) (kids : List Sc) (A M KA : Option Addr) (ca ma kc B0 : Nat) (jk : Int) (jf : Bool) (jt : ByteArray) (jns : List ByteArray) (jkids : List Js) (jA jK : Option Addr) (jca jkc B1 : Nat) (w : World) (hv : ScV w B0 ns ms kids A M KA) (hl : LimS 1048576 (.mk 8 mn mx ns ms kids)) (hok : SokP (.mk 8 mn mx ns ms kids)) (hvj : JsV w B1 jns jkids jA jK) (hlj : LimJ 1048576 (.mk jk jf jt jns jkids)) (hokj : JokP (.mk jk jf jt jns jkids)) :
    Calls Tryz.prog 116 #[.agg #[.int .i64 8, .int .i64 mn, .int .i64 mx, .slice A ns.length ca, .slice M ms.length ma, .slice KA kids.length kc], .agg #[.int .i64 jk, .bool jf, .string jt, .slice jA jns.length jca, .slice jK jkids.length jkc]] w (BoolPost (jk = 4 ∧ jt ∈ ns) w) := by
  obtain ⟨Q, hQ⟩ : ∃ Q : Prop, Q ↔ (jk = 4 ∧ jt ∈ ns) := ⟨_, Iff.rfl⟩
  rw [show (jk = 4 ∧ jt ∈ ns) = Q from (propext hQ).symm]
  have HQ := Lib.hid hQ
  obtain ⟨W0, hW0⟩ : ∃ W0, (w.alloc (.cells #[.int .i64 8, .int .i64 mn, .int .i64 mx, .slice A ns.length ca, .slice M ms.length ma, .slice KA kids.length kc] 31)).alloc (.cells #[.int .i64 jk, .bool jf, .string jt, .slice jA jns.length jca, .slice jK jkids.length jkc] 42) = W0 := ⟨_, rfl⟩
  have HBX : Hid (Below w.heap.size w W0) := by rw [← hW0]; exact (below_box _).alloc (by simp) _
  have HOS : Hid (Own W0 w.heap.size 31 (c6 8 mn mx A ns.length ca M ms.length ma KA kids.length kc)) := by rw [← hW0]; exact (Own.new w 31 #[.int .i64 8, .int .i64 mn, .int .i64 mx, .slice A ns.length ca, .slice M ms.length ma, .slice KA kids.length kc]).alloc _
  have HOJ : Hid (Own W0 (w.heap.size + 1) 42 (c5 jk jf jt jA jns.length jca jK jkids.length jkc)) := by
    rw [← hW0]
    have := Own.new (w.alloc (.cells #[.int .i64 8, .int .i64 mn, .int .i64 mx, .slice A ns.length ca, .slice M ms.length ma, .slice KA kids.length kc] 31)) 42 #[.int .i64 jk, .bool jf, .string jt, .slice jA jns.length jca, .slice jK jkids.length jkc]
    rw [World.size_alloc] at this
    exact this
  have HV := Lib.hid (hv.keep HBX.out)
  have HVJ := Lib.hid (hvj.keep HBX.out)
  have HOK := Lib.hid hok
  have HOKJ := Lib.hid hokj
  have HLJJ := Lib.hid hlj
  cases hl with
  | mk _ _ _ _ _ _ l2 l3 lm l4 l5 lb =>
  cases hlj with
  | mk _ _ _ _ _ m1 m2 m3 m4 m5 =>
  have HL5 := Lib.hid l5
  have HM5 := Lib.hid m5
  have HW := Lib.hid hW0
  clear hQ hW0 hv hvj hok hokj l3 l5 lb m3 m5
  obtain ⟨p0, p1, p2, p3, p4, p5⟩ := c6_get HOS.out
  obtain ⟨q0, q1, q2, q3, q4⟩ := c5_get HOJ.out
  have pl := HOS.out.lt
  have ql := HOJ.out.lt
  go_enter Tryz.func116, Tryz.ntmps116
  go_upto_region 1 with fail
  rw [HW.out]
  clear HW
  by_cases e : jk = 4
  · have e' : (jk == 4) = true := by simp [e]
    have HE := Lib.hid e
    clear e
    have hnpos : 0 < ns.length := by
      rcases HOK.out.one with h | h | h | h | h | h
      · omega
      · omega
      · omega
      · omega
      · omega
      · exact h.2.2.2.2.2.1
    obtain ⟨bb, bo, rfl, hcell⟩ : ∃ b off, A = some ⟨b, off, none⟩ ∧ ∀ j (h : j < ns.length), W0.cell? ⟨b, off + j, none⟩ = some (.string ns[j]) := by
      rcases HV.out.a with h | ⟨b, off, hA, hc⟩
      · have h1 : (strs ns).length = ns.length := by simp [strs]
        rw [h] at h1; simp at h1; omega
      · exact ⟨b, off, hA, fun j hj => by have := hc j (by simpa using hj); simpa [strs] using this⟩
    have HC := Lib.hid (contains_any bb bo ns.length ca ns jt W0 (Nat.le_refl _) l2 hcell)
    clear hcell
    go_wp2_with fail
    refine HC.out.mono ?_
    rintro e w2 ⟨r, rfl, hr, hw2⟩
    rw [← hw2]
    have HR := Lib.hid hr
    clear hr hw2
    go_wp2
    go_ret
    refine ⟨r, rfl, ?_, HBX.out⟩
    rw [HQ.out, HR.out]
    constructor
    · rintro ⟨j, hj, _, e⟩; exact ⟨HE.out, by rw [← e]; exact List.getElem_mem hj⟩
    · rintro ⟨_, h⟩
      obtain ⟨j, hj, e⟩ := List.getElem_of_mem h
      exact ⟨j, hj, hj, e⟩
  · have e' : (jk == 4) = false := by simp [e]
    have HF : Hid (¬ Q) := fun h => e (HQ.out.1 h).1
    clear e
    go_wp2
    go_ret
    exact ⟨false, rfl, iffF HF.out, HBX.out⟩

end Go.Proofs.YtkhcappjhefkjaaGreatDoor

