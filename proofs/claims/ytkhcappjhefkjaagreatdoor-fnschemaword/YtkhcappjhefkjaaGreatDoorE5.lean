/- The program's SchemaFits. (written by gen_e1.py) -/
import Derived.Test.YtkhcappjhefkjaaGreatDoorE4
import Derived.Test.YtkhcappjhefkjaaGreatDoorG3
import Derived.Test.YtkhcappjhefkjaaGreatDoorF7
import Derived.Test.YtkhcappjhefkjaaGreatDoorQ6
namespace Go.Proofs.YtkhcappjhefkjaaGreatDoor
open Go.RowKit
set_option linter.unusedVariables false

set_option maxRecDepth 100000 in
set_option maxHeartbeats 4000000 in
theorem implFits_any (k mn mx : Int) (ns : List ByteArray) (ms : List Bool) (kids : List Sc) (A M KA : Option Addr) (ca ma kc B0 : Nat) (jk : Int) (jf : Bool) (jt : ByteArray) (jns : List ByteArray) (jkids : List Js) (jA jK : Option Addr) (jca jkc B1 : Nat) (w : World) (hv : ScV w B0 ns ms kids A M KA) (hl : LimS 1048576 (.mk k mn mx ns ms kids)) (hle1 : ns.length ≤ ca) (hvj : JsV w B1 jns jkids jA jK) (hlj : LimJ 1048576 (.mk jk jf jt jns jkids)) (hle2 : jns.length ≤ jca) :
    Calls Tryz.prog 23 #[.agg #[.int .i64 k, .int .i64 mn, .int .i64 mx, .slice A ns.length ca, .slice M ms.length ma, .slice KA kids.length kc], .agg #[.int .i64 jk, .bool jf, .string jt, .slice jA jns.length jca, .slice jK jkids.length jkc]] w (BoolPost (FitsP (.mk k mn mx ns ms kids) (.mk jk jf jt jns jkids)) w) := by
  obtain ⟨Q, hQ⟩ : ∃ Q : Prop, Q ↔ FitsP (.mk k mn mx ns ms kids) (.mk jk jf jt jns jkids) := ⟨_, Iff.rfl⟩
  rw [show FitsP (.mk k mn mx ns ms kids) (.mk jk jf jt jns jkids) = Q from (propext hQ).symm]
  have HQ := Lib.hid hQ
  obtain ⟨W0, hW0⟩ : ∃ W0, (w.alloc (.cells #[.int .i64 k, .int .i64 mn, .int .i64 mx, .slice A ns.length ca, .slice M ms.length ma, .slice KA kids.length kc] 31)).alloc (.cells #[.int .i64 jk, .bool jf, .string jt, .slice jA jns.length jca, .slice jK jkids.length jkc] 42) = W0 := ⟨_, rfl⟩
  have HBX : Hid (Below w.heap.size w W0) := by rw [← hW0]; exact (below_box _).alloc (by simp) _
  have HOS : Hid (Own W0 w.heap.size 31 (c6 k mn mx A ns.length ca M ms.length ma KA kids.length kc)) := by rw [← hW0]; exact (Own.new w 31 #[.int .i64 k, .int .i64 mn, .int .i64 mx, .slice A ns.length ca, .slice M ms.length ma, .slice KA kids.length kc]).alloc _
  have HOJ : Hid (Own W0 (w.heap.size + 1) 42 (c5 jk jf jt jA jns.length jca jK jkids.length jkc)) := by
    rw [← hW0]
    have := Own.new (w.alloc (.cells #[.int .i64 k, .int .i64 mn, .int .i64 mx, .slice A ns.length ca, .slice M ms.length ma, .slice KA kids.length kc] 31)) 42 #[.int .i64 jk, .bool jf, .string jt, .slice jA jns.length jca, .slice jK jkids.length jkc]
    rw [World.size_alloc] at this
    exact this
  have HV := Lib.hid (hv.keep HBX.out)
  have HVJ := Lib.hid (hvj.keep HBX.out)
  have HL := Lib.hid hl
  have HLJ := Lib.hid hlj
  have HLE1 := Lib.hid hle1
  have HLE2 := Lib.hid hle2
  clear hle1 hle2
  have HW := Lib.hid hW0
  clear hQ hW0 hv hvj hl hlj
  obtain ⟨p0, p1, p2, p3, p4, p5⟩ := c6_get HOS.out
  obtain ⟨q0, q1, q2, q3, q4⟩ := c5_get HOJ.out
  have pl := HOS.out.lt
  have ql := HOJ.out.lt
  go_enter Tryz.func23, Tryz.ntmps23
  go_upto_region 1 with fail
  rw [HW.out]
  clear HW
  go_wp2_with fail
  refine (implSchemaOk_any k mn mx ns ms kids A M KA ca ma kc B0 _ HV.out HL.out HLE1.out).mono ?_
  rintro e w1 ⟨r, rfl, hr, hb⟩
  have HR1 := Lib.hid hr
  have HB1 := Lib.hid (HBX.out.trans (hb.mono HBX.out.size))
  have HV1 := Lib.hid (HV.out.keep hb)
  have HVJ1 := Lib.hid (HVJ.out.keep hb)
  have HOS1 := Lib.hid (HOS.out.keep hb)
  have HOJ1 := Lib.hid (HOJ.out.keep hb)
  clear hr hb p0 p1 p2 p3 p4 p5 q0 q1 q2 q3 q4 pl ql HV HVJ HOS HOJ
  cases r
  · have HF : Hid (¬ Q) := fun h => by have := HR1.out.2 (HQ.out.1 h).1; cases this
    go_wp2
    go_ret
    exact ⟨false, rfl, iffF HF.out, HB1.out⟩
  have hs := (show SchemaP (.mk k mn mx ns ms kids) from by first | exact HR1.out.1 rfl | exact HR1.out.1 trivial)
  have HSP := Lib.hid hs
  clear hs HR1
  obtain ⟨p0, p1, p2, p3, p4, p5⟩ := c6_get HOS1.out
  obtain ⟨q0, q1, q2, q3, q4⟩ := c5_get HOJ1.out
  have pl := HOS1.out.lt
  have ql := HOJ1.out.lt
  go_wp2_with fail
  refine (implOk_any jk jf jt jns jkids jA jK jca jkc B1 _ HVJ1.out HLJ.out HLE2.out).mono ?_
  rintro e w2 ⟨r, rfl, hr, hb⟩
  have HR2 := Lib.hid hr
  have HB2 := Lib.hid (HB1.out.trans (hb.mono HB1.out.size))
  have HV2 := Lib.hid (HV1.out.keep hb)
  have HVJ2 := Lib.hid (HVJ1.out.keep hb)
  have HOS2 := Lib.hid (HOS1.out.keep hb)
  have HOJ2 := Lib.hid (HOJ1.out.keep hb)
  clear hr hb p0 p1 p2 p3 p4 p5 q0 q1 q2 q3 q4 pl ql HV1 HVJ1 HOS1 HOJ1
  cases r
  · have HF : Hid (¬ Q) := fun h => by have := HR2.out.2 (HQ.out.1 h).2.1; cases this
    go_wp2
    go_ret
    exact ⟨false, rfl, iffF HF.out, HB2.out⟩
  have hs := (show JsonP (.mk jk jf jt jns jkids) from by first | exact HR2.out.1 rfl | exact HR2.out.1 trivial)
  have HJP := Lib.hid hs
  clear hs HR2
  obtain ⟨p0, p1, p2, p3, p4, p5⟩ := c6_get HOS2.out
  obtain ⟨q0, q1, q2, q3, q4⟩ := c5_get HOJ2.out
  have pl := HOS2.out.lt
  have ql := HOJ2.out.lt
  go_wp2_with fail
  refine (gi_all 4 k mn mx ns ms kids A M KA ca ma kc B0 jk jf jt jns jkids jA jK jca jkc B1 _ (by have h := HSP.out.1; rw [htS_mk] at h; exact h) HV2.out HL.out HSP.out.2.2.2 HVJ2.out HLJ.out HJP.out.2.1).mono ?_
  rintro e w3 ⟨r, rfl, hr, hb⟩
  have HR3 := Lib.hid hr
  have HB3 := Lib.hid (HB2.out.trans (hb.mono HB2.out.size))
  clear hr hb p0 p1 p2 p3 p4 p5 q0 q1 q2 q3 q4 pl ql
  go_wp2
  go_ret
  refine ⟨r, rfl, ?_, HB3.out⟩
  rw [HQ.out, HR3.out]
  exact ⟨fun h => ⟨HSP.out, HJP.out, h⟩, fun h => h.2.2⟩

end Go.Proofs.YtkhcappjhefkjaaGreatDoor

