/- impl.partText, of all parts (written by tools/gen_w11.py). -/
import Derived.Test.YtadfjdgjlgpncaaGreatDoorW12
namespace Go.Proofs.YtadfjdgjlgpncaaGreatDoor
open Go.RowKit
set_option linter.unusedVariables false

set_option maxRecDepth 100000 in
set_option maxHeartbeats 4000000 in
theorem part6 {n : Nat} (IH : PaT n) (rs : List Ru) (t : ByteArray) (lo hi : List Int) (kids : List Pt) (mn mx : Int) (A B K : Option Addr) (ca cb kc B0 : Nat) (w : World) (hn : NamesP rs) (hv : PtV w B0 lo hi kids A B K) (ho : OkP rs (.mk 6 t lo hi kids mn mx)) (hnd : nodesL kids + 1 ≤ 160) (hh : htL kids ≤ n) :
    Calls Tryz.prog 36 #[.agg #[.int .i64 6, .string t, .slice A lo.length ca, .slice B hi.length cb, .slice K kids.length kc, .int .i64 mn, .int .i64 mx]] w (TextIs (txt (.mk 6 t lo hi kids mn mx)) w) := by
  have hlen := txt_len hn ((Pt.mk 6 t lo hi kids mn mx).ht) (.mk 6 t lo hi kids mn mx) (Nat.le_refl _) ho
  rw [nodes_mk] at hlen
  have hok := (okp_iff.1 ho).2
  have ha := al6.1 (okp_iff.1 ho).1
  have hr : R6 t lo hi kids mn mx := ha.1
  have h1 : kids.length = 1 := ha.2.1
  have htm : TimesP mn mx := ha.2.2
  have l2 : lo.length ≤ 1048576 := by unfold R6 at hr; omega
  have l3 : hi.length ≤ 1048576 := by unfold R6 at hr; omega
  have l4 : kids.length ≤ 1048576 := by omega
  have HBX : Hid (Below w.heap.size w (w.alloc (.cells #[.int .i64 6, .string t, .slice A lo.length ca, .slice B hi.length cb, .slice K kids.length kc, .int .i64 mn, .int .i64 mx] 38))) := below_box _
  have HV := Lib.hid (hv.keep HBX.out)
  have HC : Hid (∀ w2, Below (w.alloc (.cells #[.int .i64 6, .string t, .slice A lo.length ca, .slice B hi.length cb, .slice K kids.length kc, .int .i64 mn, .int .i64 mx] 38)).heap.size (w.alloc (.cells #[.int .i64 6, .string t, .slice A lo.length ca, .slice B hi.length cb, .slice K kids.length kc, .int .i64 mn, .int .i64 mx] 38)) w2 → Calls Tryz.prog 71 #[.agg #[.slice K kids.length kc, .int .i64 mn, .int .i64 mx]] w2 (TextIs (txt (.mk 6 t lo hi kids mn mx)) w2)) := fun w2 h2 => by
    obtain ⟨p, rfl⟩ : ∃ p, kids = [p] := by
      match kids, h1 with
      | [p], _ => exact ⟨p, rfl⟩
    have hht := ht_mem (p := p) (kids := [p]) (by simp)
    have hnn := nodesL_mem (p := p) (kids := [p]) (by simp)
    rw [txt_6]
    exact manyText_any IH rs p mn mx K kc B0 w2 hn (by omega) (HV.out.keep h2).k (hok p (by simp)) (by omega) htm.1 htm.2.1 (by have := htm.2.2; omega)
  have HR := Lib.hid hr
  have HE := Lib.hid (exprOf6 t lo hi kids mn mx A B K ca cb kc (w.alloc (.cells #[.int .i64 6, .string t, .slice A lo.length ca, .slice B hi.length cb, .slice K kids.length kc, .int .i64 mn, .int .i64 mx] 38)) l2 l3 l4)
  clear hlen hok ha hr hv ho hn HV h1 htm
  have x0 := as102_95
  have x1 := as102_97
  have x2 := as102_98
  have x3 := as102_99
  have x4 := as102_100
  have x5 := as102
  generalize txt (.mk 6 t lo hi kids mn mx) = TX at *
  go_enter Tryz.func36, Tryz.ntmps36
  go_wp2_with fail
  refine HE.out.mono ?_
  generalize (w.alloc (.cells #[.int .i64 6, .string t, .slice A lo.length ca, .slice B hi.length cb, .slice K kids.length kc, .int .i64 mn, .int .i64 mx] 38)) = W0 at *
  rintro e w1 ⟨x, rfl, hx, hb1⟩
  obtain rfl : x = .iface 111 (.agg #[.slice K kids.length kc, .int .i64 mn, .int .i64 mx]) := by
    rcases hx with ⟨_, h⟩ | ⟨h, _⟩
    · exact h
    · exact absurd HR.out h
  have HBY : Hid (Below w1.heap.size w1 (w1.alloc (.cells #[.slice K kids.length kc, .int .i64 mn, .int .i64 mx] 111))) := below_box _
  have HCC := Lib.hid (HC.out (w1.alloc (.cells #[.slice K kids.length kc, .int .i64 mn, .int .i64 mx] 111)) (hb1.trans (HBY.out.mono hb1.size)))
  have HBB := Lib.hid (HBX.out.trans ((hb1.trans (HBY.out.mono hb1.size)).mono HBX.out.size))
  clear hx hb1 HE
  go_wp2_with fail
  refine HCC.out.mono ?_
  rintro e w2 ⟨s, rfl, hs, hb2⟩
  have HS := Lib.hid hs
  have HB2 := Lib.hid (HBB.out.trans (hb2.mono HBB.out.size))
  clear hs hb2 HCC
  go_wp2
  go_ret
  exact ⟨_, rfl, HS.out, HB2.out⟩

theorem paTS {n : Nat} (IH : PaT n) : PaT (n + 1) := by
  intro rs k t lo hi kids mn mx A B K ca cb kc B0 w hn hh hv ho hnd
  have hk : k = 1 ∨ k = 2 ∨ k = 3 ∨ k = 4 ∨ k = 5 ∨ k = 6 := by
    cases ho with
    | mk _ _ _ _ _ _ _ ha _ =>
      obtain ⟨_, ha⟩ := ha
      rcases ha with ⟨e, _⟩ | ⟨e, _⟩ | ⟨e, _⟩ | ⟨e, _⟩ | ⟨e, _⟩ | ⟨e, _⟩ <;> simp [e]
  rcases hk with rfl | rfl | rfl | rfl | rfl | rfl
  · exact part1 rs t lo hi kids mn mx A B K ca cb kc B0 w hn hv ho hnd
  · exact part2 rs t lo hi kids mn mx A B K ca cb kc B0 w hn hv ho hnd
  · exact part3 rs t lo hi kids mn mx A B K ca cb kc B0 w hn hv ho hnd
  · exact part4 IH rs t lo hi kids mn mx A B K ca cb kc B0 w hn hv ho hnd (by omega)
  · exact part5 IH rs t lo hi kids mn mx A B K ca cb kc B0 w hn hv ho hnd (by omega)
  · exact part6 IH rs t lo hi kids mn mx A B K ca cb kc B0 w hn hv ho hnd (by omega)
theorem paT_all : ∀ n, PaT n
  | 0 => by intro rs k t lo hi kids mn mx A B K ca cb kc B0 w hn hh; omega
  | n + 1 => paTS (paT_all n)

end Go.Proofs.YtadfjdgjlgpncaaGreatDoor
