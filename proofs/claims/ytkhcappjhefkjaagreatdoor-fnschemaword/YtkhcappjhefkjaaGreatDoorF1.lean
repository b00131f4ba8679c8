/- The program's methods isText, isList, isForm, isAny, isOne of a schema. (written by gen_f1.py) -/
import Derived.Test.YtkhcappjhefkjaaGreatDoorF0
namespace Go.Proofs.YtkhcappjhefkjaaGreatDoor
open Go.RowKit Go.Shelf
set_option linter.unusedVariables false

theorem gen_w {P : World → Prop} {W : World} (h : ∀ X, X = W → P X) : P W := h W rfl

set_option maxRecDepth 100000 in
set_option maxHeartbeats 2000000 in
theorem isText_any (k mn mx : Int) (ns : List ByteArray) (ms : List Bool) (kids : List Sc) (A M K : Option Addr) (ca ma kc : Nat) (w : World) (hr : Row w A (strs ns)) (hle : ns.length ≤ ca) (l2 : ns.length ≤ 1048576) (l3 : ∀ n ∈ ns, n.size ≤ 1048576) (lm : ms.length ≤ 1048576) (lk : kids.length ≤ 1048576) :
    Calls Tryz.prog 99 #[.agg #[.int .i64 k, .int .i64 mn, .int .i64 mx, .slice A ns.length ca, .slice M ms.length ma, .slice K kids.length kc]] w (BoolPost (SpanP mn mx ∧ ns.length = 0 ∧ ms.length = 0 ∧ kids.length = 0) w) := by
  obtain ⟨Q, hQ⟩ : ∃ Q : Prop, Q ↔ (SpanP mn mx ∧ ns.length = 0 ∧ ms.length = 0 ∧ kids.length = 0) := ⟨_, Iff.rfl⟩
  rw [show (SpanP mn mx ∧ ns.length = 0 ∧ ms.length = 0 ∧ kids.length = 0) = Q from (propext hQ).symm]
  have HQ := Lib.hid hQ
  have HR := Lib.hid hr
  have HN := Lib.hid l3
  clear hQ hr l3
  go_enter Tryz.func99, Tryz.ntmps99
  go_wp2_with fail
  refine gen_w (P := fun X => Calls Tryz.prog 89 _ X _) (fun W hW => ?_)
  have HO : Hid (Own W w.heap.size 31 (c6 k mn mx A ns.length ca M ms.length ma K kids.length kc)) := by rw [hW]; exact (Own.new w 31 #[.int .i64 k, .int .i64 mn, .int .i64 mx, .slice A ns.length ca, .slice M ms.length ma, .slice K kids.length kc]).alloc _
  have HBW : Hid (Below w.heap.size w W) := by rw [hW]; exact (below_box _).alloc (by simp) _
  clear hW
  refine (bare_any k 0 0 A M K ns.length ca ms.length ma kids.length kc W (by omega) (by omega) (by omega)).mono ?_
  rintro e w2 ⟨r, rfl, hr1, hb⟩
  have HRR := Lib.hid hr1
  have HB2 := Lib.hid (HBW.out.trans (hb.mono HBW.out.size))
  have HO2 := Lib.hid (HO.out.keep hb)
  clear hr1 hb HO HBW
  obtain ⟨p0, p1, p2, p3, p4, p5⟩ := c6_get HO2.out
  have pl := HO2.out.lt
  cases r
  · have HF : Hid (¬ Q) := fun h => by
      have h := HQ.out.1 h
      have := HRR.out.2 ⟨rfl, rfl, h.2.1, h.2.2.1, h.2.2.2⟩
      cases this
    go_wp2
    go_ret
    exact ⟨false, rfl, iffF HF.out, HB2.out⟩
  · have hz := (show (0 : Int) = 0 ∧ (0 : Int) = 0 ∧ ns.length = 0 ∧ ms.length = 0 ∧ kids.length = 0 from by first | exact HRR.out.1 rfl | exact HRR.out.1 trivial)
    have HZ := Lib.hid hz
    clear hz HRR
    go_wp2_with fail
    refine (bounds_any k mn mx A M K ns.length ca ms.length ma kids.length kc w2 l2 lm lk).mono ?_
    rintro e w3 ⟨r, rfl, hr1, hb⟩
    have HR3 := Lib.hid hr1
    have HB3 := Lib.hid (HB2.out.trans (hb.mono HB2.out.size))
    have HO3 := Lib.hid (HO2.out.keep hb)
    clear hr1 hb p0 p1 p2 p3 p4 p5 pl HO2
    go_wp2
    go_ret
    refine ⟨r, rfl, ?_, HB3.out⟩
    rw [HQ.out, HR3.out]
    have := HZ.out
    exact ⟨fun h => ⟨h, this.2.2.1, this.2.2.2.1, this.2.2.2.2⟩, fun h => h.1⟩

set_option maxRecDepth 100000 in
set_option maxHeartbeats 2000000 in
theorem isList_any (k mn mx : Int) (ns : List ByteArray) (ms : List Bool) (kids : List Sc) (A M K : Option Addr) (ca ma kc : Nat) (w : World) (hr : Row w A (strs ns)) (hle : ns.length ≤ ca) (l2 : ns.length ≤ 1048576) (l3 : ∀ n ∈ ns, n.size ≤ 1048576) (lm : ms.length ≤ 1048576) (lk : kids.length ≤ 1048576) :
    Calls Tryz.prog 103 #[.agg #[.int .i64 k, .int .i64 mn, .int .i64 mx, .slice A ns.length ca, .slice M ms.length ma, .slice K kids.length kc]] w (BoolPost (SpanP mn mx ∧ ns.length = 0 ∧ ms.length = 0 ∧ kids.length = 1) w) := by
  obtain ⟨Q, hQ⟩ : ∃ Q : Prop, Q ↔ (SpanP mn mx ∧ ns.length = 0 ∧ ms.length = 0 ∧ kids.length = 1) := ⟨_, Iff.rfl⟩
  rw [show (SpanP mn mx ∧ ns.length = 0 ∧ ms.length = 0 ∧ kids.length = 1) = Q from (propext hQ).symm]
  have HQ := Lib.hid hQ
  have HR := Lib.hid hr
  have HN := Lib.hid l3
  clear hQ hr l3
  go_enter Tryz.func103, Tryz.ntmps103
  go_wp2_with fail
  refine gen_w (P := fun X => Calls Tryz.prog 89 _ X _) (fun W hW => ?_)
  have HO : Hid (Own W w.heap.size 31 (c6 k mn mx A ns.length ca M ms.length ma K kids.length kc)) := by rw [hW]; exact (Own.new w 31 #[.int .i64 k, .int .i64 mn, .int .i64 mx, .slice A ns.length ca, .slice M ms.length ma, .slice K kids.length kc]).alloc _
  have HBW : Hid (Below w.heap.size w W) := by rw [hW]; exact (below_box _).alloc (by simp) _
  clear hW
  refine (bare_any k 0 0 A M none ns.length ca ms.length ma 0 0 W (by omega) (by omega) (by omega)).mono ?_
  rintro e w2 ⟨r, rfl, hr1, hb⟩
  have HRR := Lib.hid hr1
  have HB2 := Lib.hid (HBW.out.trans (hb.mono HBW.out.size))
  have HO2 := Lib.hid (HO.out.keep hb)
  clear hr1 hb HO HBW
  obtain ⟨p0, p1, p2, p3, p4, p5⟩ := c6_get HO2.out
  have pl := HO2.out.lt
  cases r
  · have HF : Hid (¬ Q) := fun h => by
      have h := HQ.out.1 h
      have := HRR.out.2 ⟨rfl, rfl, h.2.1, h.2.2.1, rfl⟩
      cases this
    go_wp2
    go_ret
    exact ⟨false, rfl, iffF HF.out, HB2.out⟩
  · have hz := (show (0 : Int) = 0 ∧ (0 : Int) = 0 ∧ ns.length = 0 ∧ ms.length = 0 ∧ 0 = 0 from by first | exact HRR.out.1 rfl | exact HRR.out.1 trivial)
    have HZ := Lib.hid hz
    clear hz HRR
    go_wp2_with fail
    refine (bounds_any k mn mx A M K ns.length ca ms.length ma kids.length kc w2 l2 lm lk).mono ?_
    rintro e w3 ⟨r, rfl, hr1, hb⟩
    have HR3 := Lib.hid hr1
    have HB3 := Lib.hid (HB2.out.trans (hb.mono HB2.out.size))
    have HO3 := Lib.hid (HO2.out.keep hb)
    clear hr1 hb p0 p1 p2 p3 p4 p5 pl HO2
    obtain ⟨p0, p1, p2, p3, p4, p5⟩ := c6_get HO3.out
    have pl := HO3.out.lt
    cases r
    · have HF : Hid (¬ Q) := fun h => by
        have := HR3.out.2 (HQ.out.1 h).1
        cases this
      go_wp2
      go_ret
      exact ⟨false, rfl, iffF HF.out, HB3.out⟩
    · have hs := (show SpanP mn mx from by first | exact HR3.out.1 rfl | exact HR3.out.1 trivial)
      have HS := Lib.hid hs
      clear hs HR3
      go_wp2
      go_ret
      refine ⟨_, rfl, ?_, HB3.out⟩
      rw [HQ.out, beq_iff_eq]
      have := HZ.out
      constructor
      · intro h; exact ⟨HS.out, this.2.2.1, this.2.2.2.1, by omega⟩
      · intro h; have := h.2.2.2; omega

set_option maxRecDepth 100000 in
set_option maxHeartbeats 2000000 in
theorem isForm_any (k mn mx : Int) (ns : List ByteArray) (ms : List Bool) (kids : List Sc) (A M K : Option Addr) (ca ma kc : Nat) (w : World) (hr : Row w A (strs ns)) (hle : ns.length ≤ ca) (l2 : ns.length ≤ 1048576) (l3 : ∀ n ∈ ns, n.size ≤ 1048576) (lm : ms.length ≤ 1048576) (lk : kids.length ≤ 1048576) :
    Calls Tryz.prog 107 #[.agg #[.int .i64 k, .int .i64 mn, .int .i64 mx, .slice A ns.length ca, .slice M ms.length ma, .slice K kids.length kc]] w (BoolPost (mn = 0 ∧ mx = 0 ∧ ns.length = kids.length ∧ ms.length = kids.length ∧ NmsP ns) w) := by
  obtain ⟨Q, hQ⟩ : ∃ Q : Prop, Q ↔ (mn = 0 ∧ mx = 0 ∧ ns.length = kids.length ∧ ms.length = kids.length ∧ NmsP ns) := ⟨_, Iff.rfl⟩
  rw [show (mn = 0 ∧ mx = 0 ∧ ns.length = kids.length ∧ ms.length = kids.length ∧ NmsP ns) = Q from (propext hQ).symm]
  have HQ := Lib.hid hQ
  have HR := Lib.hid hr
  have HN := Lib.hid l3
  clear hQ hr l3
  go_enter Tryz.func107, Tryz.ntmps107
  go_wp2_with fail
  refine gen_w (P := fun X => Calls Tryz.prog 89 _ X _) (fun W hW => ?_)
  have HO : Hid (Own W w.heap.size 31 (c6 k mn mx A ns.length ca M ms.length ma K kids.length kc)) := by rw [hW]; exact (Own.new w 31 #[.int .i64 k, .int .i64 mn, .int .i64 mx, .slice A ns.length ca, .slice M ms.length ma, .slice K kids.length kc]).alloc _
  have HBW : Hid (Below w.heap.size w W) := by rw [hW]; exact (below_box _).alloc (by simp) _
  clear hW
  refine (bare_any k mn mx none none none 0 0 0 0 0 0 W (by omega) (by omega) (by omega)).mono ?_
  rintro e w2 ⟨r, rfl, hr1, hb⟩
  have HRR := Lib.hid hr1
  have HB2 := Lib.hid (HBW.out.trans (hb.mono HBW.out.size))
  have HO2 := Lib.hid (HO.out.keep hb)
  clear hr1 hb HO HBW
  obtain ⟨p0, p1, p2, p3, p4, p5⟩ := c6_get HO2.out
  have pl := HO2.out.lt
  cases r
  · have HF : Hid (¬ Q) := fun h => by
      have h := HQ.out.1 h
      have := HRR.out.2 ⟨h.1, h.2.1, rfl, rfl, rfl⟩
      cases this
    go_wp2
    go_ret
    exact ⟨false, rfl, iffF HF.out, HB2.out⟩
  · have hz := (show mn = 0 ∧ mx = 0 ∧ 0 = 0 ∧ 0 = 0 ∧ 0 = 0 from by first | exact HRR.out.1 rfl | exact HRR.out.1 trivial)
    have HZ := Lib.hid hz
    clear hz HRR
    by_cases z1 : ns.length = kids.length
    · have z1' : ((ns.length : Int) == (kids.length : Int)) = true := by rw [beq_iff_eq]; omega
      by_cases z2 : ms.length = kids.length
      · have z2' : ((ms.length : Int) == (kids.length : Int)) = true := by rw [beq_iff_eq]; omega
        have HZ2 := Lib.hid (And.intro z1 z2)
        clear z1 z2
        go_wp2_with fail
        refine (areNames_any ns A ca w2 (HR.out.keep HB2.out) hle l2 HN.out).mono ?_
        rintro e w3 ⟨r, rfl, hr1, hb⟩
        have HR3 := Lib.hid hr1
        have HB3 := Lib.hid (HB2.out.trans (hb.mono HB2.out.size))
        clear hr1 hb p0 p1 p2 p3 p4 p5 pl
        go_wp2
        go_ret
        refine ⟨r, rfl, ?_, HB3.out⟩
        rw [HQ.out, HR3.out]
        have q1 := HZ.out
        have q2 := HZ2.out
        exact ⟨fun h => ⟨q1.1, q1.2.1, q2.1, q2.2, h⟩, fun h => h.2.2.2.2⟩
      · have z2' : ((ms.length : Int) == (kids.length : Int)) = false := by rw [beq_eq_false_iff_ne]; omega
        have HF : Hid (¬ Q) := fun h => by have h := HQ.out.1 h; exact z2 h.2.2.2.1
        clear z1 z2
        go_wp2
        go_ret
        exact ⟨false, rfl, iffF HF.out, HB2.out⟩
    · have z1' : ((ns.length : Int) == (kids.length : Int)) = false := by rw [beq_eq_false_iff_ne]; omega
      have HF : Hid (¬ Q) := fun h => by have h := HQ.out.1 h; exact z1 h.2.2.1
      clear z1
      go_wp2
      go_ret
      exact ⟨false, rfl, iffF HF.out, HB2.out⟩

set_option maxRecDepth 100000 in
set_option maxHeartbeats 2000000 in
theorem isAny_any (k mn mx : Int) (ns : List ByteArray) (ms : List Bool) (kids : List Sc) (A M K : Option Addr) (ca ma kc : Nat) (w : World) (hr : Row w A (strs ns)) (hle : ns.length ≤ ca) (l2 : ns.length ≤ 1048576) (l3 : ∀ n ∈ ns, n.size ≤ 1048576) (lm : ms.length ≤ 1048576) (lk : kids.length ≤ 1048576) :
    Calls Tryz.prog 111 #[.agg #[.int .i64 k, .int .i64 mn, .int .i64 mx, .slice A ns.length ca, .slice M ms.length ma, .slice K kids.length kc]] w (BoolPost (mn = 0 ∧ mx = 0 ∧ ns.length = 0 ∧ ms.length = 0 ∧ 2 ≤ kids.length) w) := by
  obtain ⟨Q, hQ⟩ : ∃ Q : Prop, Q ↔ (mn = 0 ∧ mx = 0 ∧ ns.length = 0 ∧ ms.length = 0 ∧ 2 ≤ kids.length) := ⟨_, Iff.rfl⟩
  rw [show (mn = 0 ∧ mx = 0 ∧ ns.length = 0 ∧ ms.length = 0 ∧ 2 ≤ kids.length) = Q from (propext hQ).symm]
  have HQ := Lib.hid hQ
  have HR := Lib.hid hr
  have HN := Lib.hid l3
  clear hQ hr l3
  go_enter Tryz.func111, Tryz.ntmps111
  go_wp2_with fail
  refine gen_w (P := fun X => Calls Tryz.prog 89 _ X _) (fun W hW => ?_)
  have HO : Hid (Own W w.heap.size 31 (c6 k mn mx A ns.length ca M ms.length ma K kids.length kc)) := by rw [hW]; exact (Own.new w 31 #[.int .i64 k, .int .i64 mn, .int .i64 mx, .slice A ns.length ca, .slice M ms.length ma, .slice K kids.length kc]).alloc _
  have HBW : Hid (Below w.heap.size w W) := by rw [hW]; exact (below_box _).alloc (by simp) _
  clear hW
  refine (bare_any k mn mx A M none ns.length ca ms.length ma 0 0 W (by omega) (by omega) (by omega)).mono ?_
  rintro e w2 ⟨r, rfl, hr1, hb⟩
  have HRR := Lib.hid hr1
  have HB2 := Lib.hid (HBW.out.trans (hb.mono HBW.out.size))
  have HO2 := Lib.hid (HO.out.keep hb)
  clear hr1 hb HO HBW
  obtain ⟨p0, p1, p2, p3, p4, p5⟩ := c6_get HO2.out
  have pl := HO2.out.lt
  cases r
  · have HF : Hid (¬ Q) := fun h => by
      have h := HQ.out.1 h
      have := HRR.out.2 ⟨h.1, h.2.1, h.2.2.1, h.2.2.2.1, rfl⟩
      cases this
    go_wp2
    go_ret
    exact ⟨false, rfl, iffF HF.out, HB2.out⟩
  · have hz := (show mn = 0 ∧ mx = 0 ∧ ns.length = 0 ∧ ms.length = 0 ∧ 0 = 0 from by first | exact HRR.out.1 rfl | exact HRR.out.1 trivial)
    have HZ := Lib.hid hz
    clear hz HRR
    go_wp2
    go_ret
    refine ⟨_, rfl, ?_, HB2.out⟩
    rw [HQ.out, decide_eq_true_eq]
    have := HZ.out
    exact ⟨fun h => ⟨this.1, this.2.1, this.2.2.1, this.2.2.2.1, by omega⟩, fun h => by have := h.2.2.2.2; omega⟩

set_option maxRecDepth 100000 in
set_option maxHeartbeats 2000000 in
theorem isOne_any (k mn mx : Int) (ns : List ByteArray) (ms : List Bool) (kids : List Sc) (A M K : Option Addr) (ca ma kc : Nat) (w : World) (hr : Row w A (strs ns)) (hle : ns.length ≤ ca) (l2 : ns.length ≤ 1048576) (l3 : ∀ n ∈ ns, n.size ≤ 1048576) (lm : ms.length ≤ 1048576) (lk : kids.length ≤ 1048576) :
    Calls Tryz.prog 115 #[.agg #[.int .i64 k, .int .i64 mn, .int .i64 mx, .slice A ns.length ca, .slice M ms.length ma, .slice K kids.length kc]] w (BoolPost (mn = 0 ∧ mx = 0 ∧ ms.length = 0 ∧ kids.length = 0 ∧ TxsP ns) w) := by
  obtain ⟨Q, hQ⟩ : ∃ Q : Prop, Q ↔ (mn = 0 ∧ mx = 0 ∧ ms.length = 0 ∧ kids.length = 0 ∧ TxsP ns) := ⟨_, Iff.rfl⟩
  rw [show (mn = 0 ∧ mx = 0 ∧ ms.length = 0 ∧ kids.length = 0 ∧ TxsP ns) = Q from (propext hQ).symm]
  have HQ := Lib.hid hQ
  have HR := Lib.hid hr
  have HN := Lib.hid l3
  clear hQ hr l3
  go_enter Tryz.func115, Tryz.ntmps115
  go_wp2_with fail
  refine gen_w (P := fun X => Calls Tryz.prog 89 _ X _) (fun W hW => ?_)
  have HO : Hid (Own W w.heap.size 31 (c6 k mn mx A ns.length ca M ms.length ma K kids.length kc)) := by rw [hW]; exact (Own.new w 31 #[.int .i64 k, .int .i64 mn, .int .i64 mx, .slice A ns.length ca, .slice M ms.length ma, .slice K kids.length kc]).alloc _
  have HBW : Hid (Below w.heap.size w W) := by rw [hW]; exact (below_box _).alloc (by simp) _
  clear hW
  refine (bare_any k mn mx none M K 0 0 ms.length ma kids.length kc W (by omega) (by omega) (by omega)).mono ?_
  rintro e w2 ⟨r, rfl, hr1, hb⟩
  have HRR := Lib.hid hr1
  have HB2 := Lib.hid (HBW.out.trans (hb.mono HBW.out.size))
  have HO2 := Lib.hid (HO.out.keep hb)
  clear hr1 hb HO HBW
  obtain ⟨p0, p1, p2, p3, p4, p5⟩ := c6_get HO2.out
  have pl := HO2.out.lt
  cases r
  · have HF : Hid (¬ Q) := fun h => by
      have h := HQ.out.1 h
      have := HRR.out.2 ⟨h.1, h.2.1, rfl, h.2.2.1, h.2.2.2.1⟩
      cases this
    go_wp2
    go_ret
    exact ⟨false, rfl, iffF HF.out, HB2.out⟩
  · have hz := (show mn = 0 ∧ mx = 0 ∧ 0 = 0 ∧ ms.length = 0 ∧ kids.length = 0 from by first | exact HRR.out.1 rfl | exact HRR.out.1 trivial)
    have HZ := Lib.hid hz
    clear hz HRR
    by_cases z1 : 1 ≤ ns.length
    · have z1' : (1 : Int) ≤ (ns.length : Int) := by omega
      by_cases z2 : ns.length ≤ 4
      · have z2' : (ns.length : Int) ≤ 4 := by omega
        have HZ2 := Lib.hid (And.intro z1 z2)
        clear z1 z2
        go_wp2_with fail
        refine (areShort_any ns A ca w2 (HR.out.keep HB2.out) hle l2 HN.out).mono ?_
        rintro e w3 ⟨r, rfl, hr1, hb⟩
        have HR3 := Lib.hid hr1
        have HB3 := Lib.hid (HB2.out.trans (hb.mono HB2.out.size))
        clear hr1 hb p0 p1 p2 p3 p4 p5 pl
        go_wp2
        go_ret
        refine ⟨r, rfl, ?_, HB3.out⟩
        rw [HQ.out, HR3.out]
        have q1 := HZ.out
        have q2 := HZ2.out
        exact ⟨fun h => ⟨q1.1, q1.2.1, q1.2.2.2.1, q1.2.2.2.2, q2.1, q2.2, h⟩, fun h => h.2.2.2.2.2.2⟩
      · have z2' : ¬ (ns.length : Int) ≤ 4 := by omega
        have HF : Hid (¬ Q) := fun h => by have h := HQ.out.1 h; exact z2 h.2.2.2.2.2.1
        clear z1 z2
        go_wp2
        go_ret
        exact ⟨false, rfl, iffF HF.out, HB2.out⟩
    · have z1' : ¬ (1 : Int) ≤ (ns.length : Int) := by omega
      have HF : Hid (¬ Q) := fun h => by have h := HQ.out.1 h; exact z1 h.2.2.2.2.1
      clear z1
      go_wp2
      go_ret
      exact ⟨false, rfl, iffF HF.out, HB2.out⟩

end Go.Proofs.YtkhcappjhefkjaaGreatDoor

