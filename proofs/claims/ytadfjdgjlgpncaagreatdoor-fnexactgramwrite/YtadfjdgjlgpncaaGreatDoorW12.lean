/- impl.partText (written by tools/gen_w11.py). -/
import Derived.Test.YtadfjdgjlgpncaaGreatDoorW11
import Derived.Test.YtadfjdgjlgpncaaGreatDoorP17
namespace Go.Proofs.YtadfjdgjlgpncaaGreatDoor
open Go.RowKit
set_option linter.unusedVariables false

set_option maxRecDepth 100000 in
set_option maxHeartbeats 4000000 in
theorem part1 (rs : List Ru) (t : ByteArray) (lo hi : List Int) (kids : List Pt) (mn mx : Int) (A B K : Option Addr) (ca cb kc B0 : Nat) (w : World) (hn : NamesP rs) (hv : PtV w B0 lo hi kids A B K) (ho : OkP rs (.mk 1 t lo hi kids mn mx)) (hnd : nodesL kids + 1 ≤ 160) :
    Calls Tryz.prog 36 #[.agg #[.int .i64 1, .string t, .slice A lo.length ca, .slice B hi.length cb, .slice K kids.length kc, .int .i64 mn, .int .i64 mx]] w (TextIs (txt (.mk 1 t lo hi kids mn mx)) w) := by
  have hlen := txt_len hn ((Pt.mk 1 t lo hi kids mn mx).ht) (.mk 1 t lo hi kids mn mx) (Nat.le_refl _) ho
  rw [nodes_mk] at hlen
  have hok := (okp_iff.1 ho).2
  have ha := al1.1 (okp_iff.1 ho).1
  have hr : R1 t lo hi kids mn mx := ha.1
  have hz : t.size ≤ 20 := ha.2.2
  have l2 : lo.length ≤ 1048576 := by unfold R1 at hr; omega
  have l3 : hi.length ≤ 1048576 := by unfold R1 at hr; omega
  have l4 : kids.length ≤ 1048576 := by unfold R1 at hr; omega
  have HBX : Hid (Below w.heap.size w (w.alloc (.cells #[.int .i64 1, .string t, .slice A lo.length ca, .slice B hi.length cb, .slice K kids.length kc, .int .i64 mn, .int .i64 mx] 38))) := below_box _
  have HV := Lib.hid (hv.keep HBX.out)
  have HC : Hid (∀ w2, Below (w.alloc (.cells #[.int .i64 1, .string t, .slice A lo.length ca, .slice B hi.length cb, .slice K kids.length kc, .int .i64 mn, .int .i64 mx] 38)).heap.size (w.alloc (.cells #[.int .i64 1, .string t, .slice A lo.length ca, .slice B hi.length cb, .slice K kids.length kc, .int .i64 mn, .int .i64 mx] 38)) w2 → Calls Tryz.prog 67 #[.string t] w2 (TextIs ((bl t).flatMap (escB qO)) w2)) := fun w2 _ => bytesText_any t w2 hz
  have HTX : Hid (txt (.mk 1 t lo hi kids mn mx) = 34 :: ((bl t).flatMap (escB qO) ++ [34])) := txt_1
  have HSZ : Hid (∀ s : ByteArray, bl s = (bl t).flatMap (escB qO) → s.size ≤ 170000) := fun s hs => by have := HTX.out ▸ hlen; rw [bl_size, hs]; simp only [List.length_cons, List.length_append] at this; omega
  have HR := Lib.hid hr
  have HE := Lib.hid (exprOf1 t lo hi kids mn mx A B K ca cb kc (w.alloc (.cells #[.int .i64 1, .string t, .slice A lo.length ca, .slice B hi.length cb, .slice K kids.length kc, .int .i64 mn, .int .i64 mx] 38)) l2 l3 l4)
  clear hlen hok ha hr hv ho hn HV
  have x0 := as95
  generalize txt (.mk 1 t lo hi kids mn mx) = TX at *
  go_enter Tryz.func36, Tryz.ntmps36
  go_wp2_with fail
  refine HE.out.mono ?_
  generalize (w.alloc (.cells #[.int .i64 1, .string t, .slice A lo.length ca, .slice B hi.length cb, .slice K kids.length kc, .int .i64 mn, .int .i64 mx] 38)) = W0 at *
  rintro e w1 ⟨x, rfl, hx, hb1⟩
  obtain rfl : x = .iface 100 (.string t) := by
    rcases hx with ⟨_, h⟩ | ⟨h, _⟩
    · exact h
    · exact absurd HR.out h
  have HCC := Lib.hid (HC.out w1 hb1)
  have HBB := Lib.hid (HBX.out.trans (hb1.mono HBX.out.size))
  clear hx hb1 HE
  go_wp2_with fail
  refine HCC.out.mono ?_
  rintro e w2 ⟨s, rfl, hs, hb2⟩
  have hsz := HSZ.out s hs
  have HS := Lib.hid hs
  have HB2 := Lib.hid (HBB.out.trans (hb2.mono HBB.out.size))
  clear hs hb2 HCC
  go_wp2
  go_ret
  exact ⟨_, rfl, by rw [bl_append, bl_append, HS.out, HTX.out]; simp [bl], HB2.out⟩

set_option maxRecDepth 100000 in
set_option maxHeartbeats 4000000 in
theorem part2 (rs : List Ru) (t : ByteArray) (lo hi : List Int) (kids : List Pt) (mn mx : Int) (A B K : Option Addr) (ca cb kc B0 : Nat) (w : World) (hn : NamesP rs) (hv : PtV w B0 lo hi kids A B K) (ho : OkP rs (.mk 2 t lo hi kids mn mx)) (hnd : nodesL kids + 1 ≤ 160) :
    Calls Tryz.prog 36 #[.agg #[.int .i64 2, .string t, .slice A lo.length ca, .slice B hi.length cb, .slice K kids.length kc, .int .i64 mn, .int .i64 mx]] w (TextIs (txt (.mk 2 t lo hi kids mn mx)) w) := by
  have hlen := txt_len hn ((Pt.mk 2 t lo hi kids mn mx).ht) (.mk 2 t lo hi kids mn mx) (Nat.le_refl _) ho
  rw [nodes_mk] at hlen
  have hok := (okp_iff.1 ho).2
  have ha := al2.1 (okp_iff.1 ho).1
  have hr : R2 t lo hi kids mn mx := ha.1
  have hcl : ClassP lo hi := ha.2
  have h128 := class_len hcl
  have l2 : lo.length ≤ 1048576 := by omega
  have l3 : hi.length ≤ 1048576 := by have := hcl.2.1; omega
  have l4 : kids.length ≤ 1048576 := by unfold R2 at hr; omega
  have HBX : Hid (Below w.heap.size w (w.alloc (.cells #[.int .i64 2, .string t, .slice A lo.length ca, .slice B hi.length cb, .slice K kids.length kc, .int .i64 mn, .int .i64 mx] 38))) := below_box _
  have HV := Lib.hid (hv.keep HBX.out)
  have HC : Hid (∀ w2, Below (w.alloc (.cells #[.int .i64 2, .string t, .slice A lo.length ca, .slice B hi.length cb, .slice K kids.length kc, .int .i64 mn, .int .i64 mx] 38)).heap.size (w.alloc (.cells #[.int .i64 2, .string t, .slice A lo.length ca, .slice B hi.length cb, .slice K kids.length kc, .int .i64 mn, .int .i64 mx] 38)) w2 → Calls Tryz.prog 68 #[.agg #[.slice A lo.length ca, .slice B hi.length cb]] w2 (TextIs (rangesT lo hi lo.length) w2)) := fun w2 h2 => rangesText_any lo hi A B ca cb w2 ((HV.out.keep h2).a) ((HV.out.keep h2).b) hcl
  have HTX : Hid (txt (.mk 2 t lo hi kids mn mx) = 91 :: (rangesT lo hi lo.length ++ [93])) := txt_2
  have HSZ : Hid (∀ s : ByteArray, bl s = rangesT lo hi lo.length → s.size ≤ 170000) := fun s hs => by have := HTX.out ▸ hlen; rw [bl_size, hs]; simp only [List.length_cons, List.length_append] at this; omega
  have HR := Lib.hid hr
  have HE := Lib.hid (exprOf2 t lo hi kids mn mx A B K ca cb kc (w.alloc (.cells #[.int .i64 2, .string t, .slice A lo.length ca, .slice B hi.length cb, .slice K kids.length kc, .int .i64 mn, .int .i64 mx] 38)) l2 l3 l4)
  clear hlen hok ha hr hv ho hn HV
  have x0 := as97_95
  have x1 := as97
  generalize txt (.mk 2 t lo hi kids mn mx) = TX at *
  go_enter Tryz.func36, Tryz.ntmps36
  go_wp2_with fail
  refine HE.out.mono ?_
  generalize (w.alloc (.cells #[.int .i64 2, .string t, .slice A lo.length ca, .slice B hi.length cb, .slice K kids.length kc, .int .i64 mn, .int .i64 mx] 38)) = W0 at *
  rintro e w1 ⟨x, rfl, hx, hb1⟩
  obtain rfl : x = .iface 103 (.agg #[.slice A lo.length ca, .slice B hi.length cb]) := by
    rcases hx with ⟨_, h⟩ | ⟨h, _⟩
    · exact h
    · exact absurd HR.out h
  have HBY : Hid (Below w1.heap.size w1 (w1.alloc (.cells #[.slice A lo.length ca, .slice B hi.length cb] 103))) := below_box _
  have HCC := Lib.hid (HC.out (w1.alloc (.cells #[.slice A lo.length ca, .slice B hi.length cb] 103)) (hb1.trans (HBY.out.mono hb1.size)))
  have HBB := Lib.hid (HBX.out.trans ((hb1.trans (HBY.out.mono hb1.size)).mono HBX.out.size))
  clear hx hb1 HE
  go_wp2_with fail
  refine HCC.out.mono ?_
  rintro e w2 ⟨s, rfl, hs, hb2⟩
  have hsz := HSZ.out s hs
  have HS := Lib.hid hs
  have HB2 := Lib.hid (HBB.out.trans (hb2.mono HBB.out.size))
  clear hs hb2 HCC
  go_wp2
  go_ret
  exact ⟨_, rfl, by rw [bl_append, bl_append, HS.out, HTX.out]; simp [bl], HB2.out⟩

set_option maxRecDepth 100000 in
set_option maxHeartbeats 4000000 in
theorem part3 (rs : List Ru) (t : ByteArray) (lo hi : List Int) (kids : List Pt) (mn mx : Int) (A B K : Option Addr) (ca cb kc B0 : Nat) (w : World) (hn : NamesP rs) (hv : PtV w B0 lo hi kids A B K) (ho : OkP rs (.mk 3 t lo hi kids mn mx)) (hnd : nodesL kids + 1 ≤ 160) :
    Calls Tryz.prog 36 #[.agg #[.int .i64 3, .string t, .slice A lo.length ca, .slice B hi.length cb, .slice K kids.length kc, .int .i64 mn, .int .i64 mx]] w (TextIs (txt (.mk 3 t lo hi kids mn mx)) w) := by
  have hlen := txt_len hn ((Pt.mk 3 t lo hi kids mn mx).ht) (.mk 3 t lo hi kids mn mx) (Nat.le_refl _) ho
  rw [nodes_mk] at hlen
  have hok := (okp_iff.1 ho).2
  have ha := al3.1 (okp_iff.1 ho).1
  have hr : R3 t lo hi kids mn mx := ha.1
  have l2 : lo.length ≤ 1048576 := by unfold R3 at hr; omega
  have l3 : hi.length ≤ 1048576 := by unfold R3 at hr; omega
  have l4 : kids.length ≤ 1048576 := by unfold R3 at hr; omega
  have HBX : Hid (Below w.heap.size w (w.alloc (.cells #[.int .i64 3, .string t, .slice A lo.length ca, .slice B hi.length cb, .slice K kids.length kc, .int .i64 mn, .int .i64 mx] 38))) := below_box _
  have HV := Lib.hid (hv.keep HBX.out)
  have HTX : Hid (txt (.mk 3 t lo hi kids mn mx) = bl t) := txt_3
  have HR := Lib.hid hr
  have HE := Lib.hid (exprOf3 t lo hi kids mn mx A B K ca cb kc (w.alloc (.cells #[.int .i64 3, .string t, .slice A lo.length ca, .slice B hi.length cb, .slice K kids.length kc, .int .i64 mn, .int .i64 mx] 38)) l2 l3 l4)
  clear hlen hok ha hr hv ho hn HV
  have x0 := as98_95
  have x1 := as98_97
  have x2 := as98
  generalize txt (.mk 3 t lo hi kids mn mx) = TX at *
  go_enter Tryz.func36, Tryz.ntmps36
  go_wp2_with fail
  refine HE.out.mono ?_
  generalize (w.alloc (.cells #[.int .i64 3, .string t, .slice A lo.length ca, .slice B hi.length cb, .slice K kids.length kc, .int .i64 mn, .int .i64 mx] 38)) = W0 at *
  rintro e w1 ⟨x, rfl, hx, hb1⟩
  obtain rfl : x = .iface 105 (.string t) := by
    rcases hx with ⟨_, h⟩ | ⟨h, _⟩
    · exact h
    · exact absurd HR.out h
  have HBB := Lib.hid (HBX.out.trans (hb1.mono HBX.out.size))
  clear hx hb1 HE
  go_wp2
  go_ret
  exact ⟨_, rfl, HTX.out.symm, HBB.out⟩

set_option maxRecDepth 100000 in
set_option maxHeartbeats 4000000 in
theorem part4 {n : Nat} (IH : PaT n) (rs : List Ru) (t : ByteArray) (lo hi : List Int) (kids : List Pt) (mn mx : Int) (A B K : Option Addr) (ca cb kc B0 : Nat) (w : World) (hn : NamesP rs) (hv : PtV w B0 lo hi kids A B K) (ho : OkP rs (.mk 4 t lo hi kids mn mx)) (hnd : nodesL kids + 1 ≤ 160) (hh : htL kids ≤ n) :
    Calls Tryz.prog 36 #[.agg #[.int .i64 4, .string t, .slice A lo.length ca, .slice B hi.length cb, .slice K kids.length kc, .int .i64 mn, .int .i64 mx]] w (TextIs (txt (.mk 4 t lo hi kids mn mx)) w) := by
  have hlen := txt_len hn ((Pt.mk 4 t lo hi kids mn mx).ht) (.mk 4 t lo hi kids mn mx) (Nat.le_refl _) ho
  rw [nodes_mk] at hlen
  have hok := (okp_iff.1 ho).2
  have ha := al4.1 (okp_iff.1 ho).1
  have hr : R4 t lo hi kids mn mx := ha.1
  have l2 : lo.length ≤ 1048576 := by unfold R4 at hr; omega
  have l3 : hi.length ≤ 1048576 := by unfold R4 at hr; omega
  have l4 : kids.length ≤ 1048576 := by have := len_le_nodesL kids; omega
  have HBX : Hid (Below w.heap.size w (w.alloc (.cells #[.int .i64 4, .string t, .slice A lo.length ca, .slice B hi.length cb, .slice K kids.length kc, .int .i64 mn, .int .i64 mx] 38))) := below_box _
  have HV := Lib.hid (hv.keep HBX.out)
  have HTX : Hid (txt (.mk 4 t lo hi kids mn mx) = if kids.length = 0 then [40, 41] else joinT [32] (kids.map sq)) := txt_4
  have HC : Hid (∀ w2, Below (w.alloc (.cells #[.int .i64 4, .string t, .slice A lo.length ca, .slice B hi.length cb, .slice K kids.length kc, .int .i64 mn, .int .i64 mx] 38)).heap.size (w.alloc (.cells #[.int .i64 4, .string t, .slice A lo.length ca, .slice B hi.length cb, .slice K kids.length kc, .int .i64 mn, .int .i64 mx] 38)) w2 → Calls Tryz.prog 69 #[.slice K kids.length kc] w2 (TextIs (txt (.mk 4 t lo hi kids mn mx)) w2)) := fun w2 h2 => by
    rw [HTX.out]
    by_cases h0 : kids.length = 0
    · rw [if_pos h0, h0]; exact seqText_none K kc w2
    · have hl2 := HTX.out ▸ hlen
      rw [if_neg h0] at hl2
      rw [if_neg h0]
      exact seqText_any IH rs kids K kc B0 w2 hn hh (HV.out.keep h2).k hok hnd (by omega) h0
  have HR := Lib.hid hr
  have HE := Lib.hid (exprOf4 t lo hi kids mn mx A B K ca cb kc (w.alloc (.cells #[.int .i64 4, .string t, .slice A lo.length ca, .slice B hi.length cb, .slice K kids.length kc, .int .i64 mn, .int .i64 mx] 38)) l2 l3 l4)
  clear hlen hok ha hr hv ho hn HV
  have x0 := as99_95
  have x1 := as99_97
  have x2 := as99_98
  have x3 := as99
  generalize txt (.mk 4 t lo hi kids mn mx) = TX at *
  go_enter Tryz.func36, Tryz.ntmps36
  go_wp2_with fail
  refine HE.out.mono ?_
  generalize (w.alloc (.cells #[.int .i64 4, .string t, .slice A lo.length ca, .slice B hi.length cb, .slice K kids.length kc, .int .i64 mn, .int .i64 mx] 38)) = W0 at *
  rintro e w1 ⟨x, rfl, hx, hb1⟩
  obtain rfl : x = .iface 106 (.slice K kids.length kc) := by
    rcases hx with ⟨_, h⟩ | ⟨h, _⟩
    · exact h
    · exact absurd HR.out h
  have HCC := Lib.hid (HC.out w1 hb1)
  have HBB := Lib.hid (HBX.out.trans (hb1.mono HBX.out.size))
  clear hx hb1 HE
  go_wp2_with fail
  refine HCC.out.mono ?_
  rintro e w2 ⟨s, rfl, hs, hb2⟩
  have HS := Lib.hid hs
  have HB2 := Lib.hid (HBB.out.trans (hb2.mono HBB.out.size))
  clear hs hb2 HCC
  go_wp2
  go_ret
  exact ⟨_, rfl, HS.out, HB2.out⟩

set_option maxRecDepth 100000 in
set_option maxHeartbeats 4000000 in
theorem part5 {n : Nat} (IH : PaT n) (rs : List Ru) (t : ByteArray) (lo hi : List Int) (kids : List Pt) (mn mx : Int) (A B K : Option Addr) (ca cb kc B0 : Nat) (w : World) (hn : NamesP rs) (hv : PtV w B0 lo hi kids A B K) (ho : OkP rs (.mk 5 t lo hi kids mn mx)) (hnd : nodesL kids + 1 ≤ 160) (hh : htL kids ≤ n) :
    Calls Tryz.prog 36 #[.agg #[.int .i64 5, .string t, .slice A lo.length ca, .slice B hi.length cb, .slice K kids.length kc, .int .i64 mn, .int .i64 mx]] w (TextIs (txt (.mk 5 t lo hi kids mn mx)) w) := by
  have hlen := txt_len hn ((Pt.mk 5 t lo hi kids mn mx).ht) (.mk 5 t lo hi kids mn mx) (Nat.le_refl _) ho
  rw [nodes_mk] at hlen
  have hok := (okp_iff.1 ho).2
  have ha := al5.1 (okp_iff.1 ho).1
  have hr : R5 t lo hi kids mn mx := ha.1
  have hne : kids.length ≠ 0 := by have := ha.2.1; omega
  have l2 : lo.length ≤ 1048576 := by unfold R5 at hr; omega
  have l3 : hi.length ≤ 1048576 := by unfold R5 at hr; omega
  have l4 : kids.length ≤ 1048576 := by have := len_le_nodesL kids; omega
  have HBX : Hid (Below w.heap.size w (w.alloc (.cells #[.int .i64 5, .string t, .slice A lo.length ca, .slice B hi.length cb, .slice K kids.length kc, .int .i64 mn, .int .i64 mx] 38))) := below_box _
  have HV := Lib.hid (hv.keep HBX.out)
  have HTX : Hid (txt (.mk 5 t lo hi kids mn mx) = joinT [32, 124, 32] (kids.map txt)) := txt_5
  have HC : Hid (∀ w2, Below (w.alloc (.cells #[.int .i64 5, .string t, .slice A lo.length ca, .slice B hi.length cb, .slice K kids.length kc, .int .i64 mn, .int .i64 mx] 38)).heap.size (w.alloc (.cells #[.int .i64 5, .string t, .slice A lo.length ca, .slice B hi.length cb, .slice K kids.length kc, .int .i64 mn, .int .i64 mx] 38)) w2 → Calls Tryz.prog 70 #[.slice K kids.length kc] w2 (TextIs (txt (.mk 5 t lo hi kids mn mx)) w2)) := fun w2 h2 => by
    have hl2 := HTX.out ▸ hlen
    rw [HTX.out]
    exact altText_any IH rs kids K kc B0 w2 hn hh (HV.out.keep h2).k hok hnd (by omega) hne
  have HR := Lib.hid hr
  have HE := Lib.hid (exprOf5 t lo hi kids mn mx A B K ca cb kc (w.alloc (.cells #[.int .i64 5, .string t, .slice A lo.length ca, .slice B hi.length cb, .slice K kids.length kc, .int .i64 mn, .int .i64 mx] 38)) l2 l3 l4)
  clear hlen hok ha hr hv ho hn HV
  have x0 := as100_95
  have x1 := as100_97
  have x2 := as100_98
  have x3 := as100_99
  have x4 := as100
  generalize txt (.mk 5 t lo hi kids mn mx) = TX at *
  go_enter Tryz.func36, Tryz.ntmps36
  go_wp2_with fail
  refine HE.out.mono ?_
  generalize (w.alloc (.cells #[.int .i64 5, .string t, .slice A lo.length ca, .slice B hi.length cb, .slice K kids.length kc, .int .i64 mn, .int .i64 mx] 38)) = W0 at *
  rintro e w1 ⟨x, rfl, hx, hb1⟩
  obtain rfl : x = .iface 108 (.slice K kids.length kc) := by
    rcases hx with ⟨_, h⟩ | ⟨h, _⟩
    · exact h
    · exact absurd HR.out h
  have HCC := Lib.hid (HC.out w1 hb1)
  have HBB := Lib.hid (HBX.out.trans (hb1.mono HBX.out.size))
  clear hx hb1 HE
  go_wp2_with fail
  refine HCC.out.mono ?_
  rintro e w2 ⟨s, rfl, hs, hb2⟩
  have HS := Lib.hid hs
  have HB2 := Lib.hid (HBB.out.trans (hb2.mono HBB.out.size))
  clear hs hb2 HCC
  go_wp2
  go_ret
  exact ⟨_, rfl, HS.out, HB2.out⟩


end Go.Proofs.YtadfjdgjlgpncaaGreatDoor
