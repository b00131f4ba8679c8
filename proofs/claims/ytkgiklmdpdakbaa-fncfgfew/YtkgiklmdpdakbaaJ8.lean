/- The specification's maker of productions: a class of one range as one symbol. -/
import Derived.Test.YtkgiklmdpdakbaaJ6
import Derived.Test.YtkgiklmdpdakbaaZ13
import Derived.Test.YtkgiklmdpdakbaaY0
import Derived.IntWalk
import Derived.Laws.BitsAllLaws
import Derived.Laws.BitsLemmas
import Derived.Laws.BytesArg
namespace Go.Proofs.Ytkgiklmdpdakbaa
open Go.RowKit
set_option linter.unusedVariables false

set_option maxRecDepth 100000 in
set_option maxHeartbeats 1000000 in
theorem oneByte_any (w0 : World) (rv : Value) (t : ByteArray) (lo hi : List Int) (kids : List Pt) (mn mx : Int) (A B K : Option Addr) (ca cb kc mb : Nat) (s : Mk) (Al : Option Addr) (cap : Nat) (xs : List Pv) (w : World) (hv : PtV w0 0 lo hi kids A B K) (h1 : lo.length = 1) (h2 : hi.length = 1) (hk : MK w0 mb rv s Al cap xs w) :
    Calls Try.prog 82 #[.pointer (some ⟨mb, 0, none⟩), .agg #[.int .i64 2, .string t, .slice A lo.length ca, .slice B hi.length cb, .slice K kids.length kc, .int .i64 mn, .int .i64 mx]] w (OnePost w0 mb rv xs (⟨-1, gi lo 0, gi hi 0⟩, s) w) := by
  rw [h1, h2]
  have HB0 := Lib.hid ((below_box (w := w) (.cells #[.int .i64 2, .string t, .slice A 1 ca, .slice B 1 cb, .slice K kids.length kc, .int .i64 mn, .int .i64 mx] 88)).alloc (by simp) (.cells #[.int .i64 0, .int .i64 0, .int .i64 0] 49))
  obtain ⟨b1, o1, rfl, g1⟩ := (hv.a.keep hk.b).gi (i := 0) (by omega)
  obtain ⟨b2, o2, rfl, g2⟩ := (hv.b.keep hk.b).gi (i := 0) (by omega)
  rw [Nat.add_zero] at g1 g2
  have l1 := cell_lt g1
  have l2 := cell_lt g2
  simp only at l1 l2
  replace g1 := cell_keep HB0.out g1
  replace g2 := cell_keep HB0.out g2
  generalize gi lo 0 = u at *
  generalize gi hi 0 = v at *
  have x2 : ((w.alloc (.cells #[.int .i64 2, .string t, .slice (some ⟨b1, o1, none⟩) 1 ca, .slice (some ⟨b2, o2, none⟩) 1 cb, .slice K kids.length kc, .int .i64 mn, .int .i64 mx] 88)).alloc (.cells #[.int .i64 0, .int .i64 0, .int .i64 0] 49)).cell? ⟨w.heap.size, 2, none⟩ = some (.slice (some ⟨b1, o1, none⟩) 1 ca) := by simp
  have x3 : ((w.alloc (.cells #[.int .i64 2, .string t, .slice (some ⟨b1, o1, none⟩) 1 ca, .slice (some ⟨b2, o2, none⟩) 1 cb, .slice K kids.length kc, .int .i64 mn, .int .i64 mx] 88)).alloc (.cells #[.int .i64 0, .int .i64 0, .int .i64 0] 49)).cell? ⟨w.heap.size, 3, none⟩ = some (.slice (some ⟨b2, o2, none⟩) 1 cb) := by simp
  have HM := Lib.hid hk
  have OR : Own ((w.alloc (.cells #[.int .i64 2, .string t, .slice (some ⟨b1, o1, none⟩) 1 ca, .slice (some ⟨b2, o2, none⟩) 1 cb, .slice K kids.length kc, .int .i64 mn, .int .i64 mx] 88)).alloc (.cells #[.int .i64 0, .int .i64 0, .int .i64 0] 49)) (w.heap.size + 1) 49 [.int .i64 0, .int .i64 0, .int .i64 0] := by
    have h := Own.new (w.alloc (.cells #[.int .i64 2, .string t, .slice (some ⟨b1, o1, none⟩) 1 ca, .slice (some ⟨b2, o2, none⟩) 1 cb, .slice K kids.length kc, .int .i64 mn, .int .i64 mx] 88)) 49 #[.int .i64 0, .int .i64 0, .int .i64 0]
    rw [World.size_alloc] at h
    exact h
  have r0 := (OR.cell 0).trans rfl
  have r1 := (OR.cell 1).trans rfl
  have r2 := (OR.cell 2).trans rfl
  have f0 := OR.frozen 0
  have f1 := OR.frozen 1
  have f2 := OR.frozen 2
  simp only [List.getElem?_cons_zero, List.getElem?_cons_succ] at r0 r1 r2
  have OQ := Lib.hid OR
  clear hv hk OR
  go_enter Try.func82, Try.ntmps82
  go_wp2
  generalize (w.alloc (.cells #[.int .i64 2, .string t, .slice (some ⟨b1, o1, none⟩) 1 ca, .slice (some ⟨b2, o2, none⟩) 1 cb, .slice K kids.length kc, .int .i64 mn, .int .i64 mx] 88)).alloc (.cells #[.int .i64 0, .int .i64 0, .int .i64 0] 49) = W at *
  go_region_held3 (fun X => X.cell? ⟨w.heap.size, 2, none⟩ = some (.slice (some ⟨b1, o1, none⟩) 1 ca) ∧ X.cell? ⟨w.heap.size, 3, none⟩ = some (.slice (some ⟨b2, o2, none⟩) 1 cb) ∧ X.cell? ⟨b1, o1, none⟩ = some (.int .i64 u) ∧ X.cell? ⟨b2, o2, none⟩ = some (.int .i64 v))
    (first | exact ⟨cell_far3 (by simp) x2, cell_far3 (by simp) x3, cell_far3 (by simp; omega) g1, cell_far3 (by simp; omega) g2⟩ | exact ⟨x2, x3, g1, g2⟩)
    (fail)
  have OF0 := OQ.out.set_ 0 (.int .i64 (-1))
  have OF1 := OF0.set_ 1 (.int .i64 u)
  have OF2 := OF1.set_ 2 (.int .i64 v)
  have z0 := (OF0.cell 0).trans rfl
  have z1 := (OF1.cell 1).trans rfl
  have z2 := (OF2.cell 2).trans rfl
  simp only [List.set_cons_zero, List.set_cons_succ, List.getElem?_cons_zero, List.getElem?_cons_succ] at z0 z1 z2
  have lt2 : w.heap.size + 1 < W.heap.size := OQ.out.lt
  clear x2 x3 g1 g2 r0 r1 r2 OF0 OF1 OF2
  go_wp2
  refine bodyPost_ret (v := .agg #[.int .i64 (-1), .int .i64 u, .int .i64 v]) (by simp [results, Try.results82, go_sem, z0, z1, z2]) rfl ⟨rfl, Al, cap, [], .below HM.out ?_⟩
  exact ((HB0.out.drew.setCell (by simp) _).setCell (by simp) _).setCell (by simp) _

end Go.Proofs.Ytkgiklmdpdakbaa

/- The specification's maker of productions: every part, by induction on its height. -/
namespace Go.Proofs.Ytkgiklmdpdakbaa
open Go.RowKit
set_option linter.unusedVariables false

set_option maxRecDepth 100000 in
set_option maxHeartbeats 2000000 in
theorem headMany_any (w0 : World) (mb : Nat) (rv : Value) (h : Nat) (t : ByteArray) (lo hi : List Int) (kids : List Pt) (mn mx : Int) (A B K : Option Addr) (ca cb kc : Nat) (s s' : Mk) (Al : Option Addr) (cap : Nat) (xs : List Pv) (w : World)
    (hk : MK w0 mb rv s Al cap xs w)
    (hm : ∀ X, MK w0 mb rv s Al cap xs X → Calls Try.prog 71 #[.pointer (some ⟨mb, 0, none⟩), .int .i64 (h : Int), .agg #[.int .i64 6, .string t, .slice A lo.length ca, .slice B hi.length cb, .slice K kids.length kc, .int .i64 mn, .int .i64 mx]] X (HeadPost w0 mb rv xs s' X)) :
    Calls Try.prog 50 #[.pointer (some ⟨mb, 0, none⟩), .int .i64 (h : Int), .agg #[.int .i64 6, .string t, .slice A lo.length ca, .slice B hi.length cb, .slice K kids.length kc, .int .i64 mn, .int .i64 mx]] w (HeadPost w0 mb rv xs s' w) := by
  have HBX := Lib.hid (below_box (w := w) (.cells #[.int .i64 6, .string t, .slice A lo.length ca, .slice B hi.length cb, .slice K kids.length kc, .int .i64 mn, .int .i64 mx] 88))
  have HM := Lib.hid (hk.keep HBX.out)
  have HMM := Lib.hid (hm _ HM.out)
  clear hm hk
  go_enter Try.func50, Try.ntmps50
  go_wp2_with fail
  refine HMM.out.mono ?_
  rintro e w2 ⟨rfl, A2, cp2, z2, hp2⟩
  have FIN := Lib.hid (MkP.after HBX.out hp2)
  clear hp2
  go_wp2
  refine bodyPost_end (results_none rfl _ _ _) rfl ?_
  exact ⟨rfl, A2, cp2, _, FIN.out⟩

/-- A box of the call's own is written; it is a block of symbols that no production has. -/
theorem MkP.box {w0 w W w2 : World} {mb c2 : Nat} {rv : Value} {s' : Mk} {A2 : Option Addr} {xs zs : List Pv} {g : Nat} {a b c x y z : Value} (hb : Below w.heap.size w W) (h : MkP w0 mb rv xs W s' A2 c2 zs w2) (ho : Own w2 g 49 [x, y, z]) (hg : w.heap.size ≤ g) (hgW : g < W.heap.size)
    (hlow : ∀ x ∈ xs, ∀ b, x.sl.ownBlock = some b → b < w.heap.size) (hw0 : w0.heap.size ≤ w.heap.size) : MkP w0 mb rv xs w s' A2 c2 zs (((w2.setCell ⟨g, 0, none⟩ a).setCell ⟨g, 1, none⟩ b).setCell ⟨g, 2, none⟩ c) := by
  have far : ∀ k, k ≠ g → (((w2.setCell ⟨g, 0, none⟩ a).setCell ⟨g, 1, none⟩ b).setCell ⟨g, 2, none⟩ c).heap[k]? = w2.heap[k]? := fun k hk => ((Below.heap_setCell _ _ _ k hk).trans (Below.heap_setCell _ _ _ k hk)).trans (Below.heap_setCell _ _ _ k hk)
  have hz : (((w2.setCell ⟨g, 0, none⟩ a).setCell ⟨g, 1, none⟩ b).setCell ⟨g, 2, none⟩ c).heap.size = w2.heap.size := by simp
  obtain ⟨⟨o, ⟨go, gd, gap⟩, p, bb, ge⟩, f, nn⟩ := h
  have hg2 : w2.heap[g]? = some (.cells _ 49 (0, 0)) := ho
  have typ : ∀ {k : Nat} {t : TypeId} {cur : Array Value}, w2.heap[k]? = some (.cells cur t (0, 0)) → t ≠ 49 → k ≠ g := fun hk ht e => by
    rw [e, hg2] at hk
    injection hk with hk
    injection hk with _ hk
    exact ht hk.symm
  have o2 : w2.heap[mb]? = some (.cells _ 84 (0, 0)) := o
  have hbs := hb.size
  refine ⟨⟨(far mb (typ o2 (by decide))).trans o, ⟨row_of go (fun b cur _ hc _ => far b (typ hc (by decide))), fun i hi => row_of (gd i hi) (fun b cur hb' _ _ => far b (fun e => ?_)), gap⟩, p, ((bb.setCell (by simp only; omega) _).setCell (by simp only; omega) _).setCell (by simp only; omega) _, ge⟩, ⟨f.os.trans hb.os, f.tape.trans hb.tape, f.output.trans hb.output, by rw [hz]; exact Nat.le_trans hb.size f.size, fun k hk h1 h2 => ?_⟩, fun z hz b hb' => by have := nn z hz b hb'; omega⟩
  · rcases List.mem_append.1 (List.getElem_mem hi) with hm | hm
    · have := hlow _ hm b hb'
      omega
    · have := nn _ hm b hb'
      omega
  · refine (far k (by omega)).trans ((f.block k (by omega) h1 (fun cur hc => ?_)).trans (hb.block k hk))
    rw [hb.block k hk] at hc
    exact h2 cur hc

set_option maxRecDepth 100000 in
set_option maxHeartbeats 2000000 in
theorem oneNew_any (w0 : World) (mb : Nat) (rv : Value) (k : Int) (hk3 : k ≠ 3) (t : ByteArray) (lo hi : List Int) (hk2 : ¬ (k = 2 ∧ lo.length = 1)) (hlo : lo.length ≤ 1048576) (kids : List Pt) (mn mx : Int) (A B K : Option Addr) (ca cb kc : Nat) (s s' : Mk) (Al : Option Addr) (cap : Nat) (xs : List Pv) (w : World)
    (hk : MK w0 mb rv s Al cap xs w) (hs : s.heads ≤ 1000000)
    (hh : ∀ X Al cap, MK w0 mb rv s.fresh Al cap xs X → Calls Try.prog 50 #[.pointer (some ⟨mb, 0, none⟩), .int .i64 (s.heads : Int), .agg #[.int .i64 k, .string t, .slice A lo.length ca, .slice B hi.length cb, .slice K kids.length kc, .int .i64 mn, .int .i64 mx]] X (HeadPost w0 mb rv xs s' X)) :
    Calls Try.prog 82 #[.pointer (some ⟨mb, 0, none⟩), .agg #[.int .i64 k, .string t, .slice A lo.length ca, .slice B hi.length cb, .slice K kids.length kc, .int .i64 mn, .int .i64 mx]] w (OnePost w0 mb rv xs (headSy s.heads, s') w) := by
  have h3 : (k == 3) = false := by simp [hk3]
  have HB0 := Lib.hid ((below_box (w := w) (.cells #[.int .i64 k, .string t, .slice A lo.length ca, .slice B hi.length cb, .slice K kids.length kc, .int .i64 mn, .int .i64 mx] 88)).alloc (by simp) (.cells #[.int .i64 0, .int .i64 0, .int .i64 0] 49))
  have OP : Hid (Own ((w.alloc (.cells #[.int .i64 k, .string t, .slice A lo.length ca, .slice B hi.length cb, .slice K kids.length kc, .int .i64 mn, .int .i64 mx] 88)).alloc (.cells #[.int .i64 0, .int .i64 0, .int .i64 0] 49)) w.heap.size 88 [.int .i64 k, .string t, .slice A lo.length ca, .slice B hi.length cb, .slice K kids.length kc, .int .i64 mn, .int .i64 mx]) := (Own.new w 88 #[.int .i64 k, .string t, .slice A lo.length ca, .slice B hi.length cb, .slice K kids.length kc, .int .i64 mn, .int .i64 mx]).alloc _
  have OR : Hid (Own ((w.alloc (.cells #[.int .i64 k, .string t, .slice A lo.length ca, .slice B hi.length cb, .slice K kids.length kc, .int .i64 mn, .int .i64 mx] 88)).alloc (.cells #[.int .i64 0, .int .i64 0, .int .i64 0] 49)) (w.heap.size + 1) 49 [.int .i64 0, .int .i64 0, .int .i64 0]) := by
    have h := Own.new (w.alloc (.cells #[.int .i64 k, .string t, .slice A lo.length ca, .slice B hi.length cb, .slice K kids.length kc, .int .i64 mn, .int .i64 mx] 88)) 49 #[.int .i64 0, .int .i64 0, .int .i64 0]
    rw [World.size_alloc] at h
    exact h
  have HM := Lib.hid (hk.keep HB0.out)
  have HLOW := Lib.hid hk.low
  have hw0 : w0.heap.size ≤ w.heap.size := hk.b.size
  have HH := Lib.hid hh
  have HF := Lib.hid (fresh_any w0 mb rv s Al cap xs _ HM.out hs)
  have y0 := (OP.out.cell 0).trans rfl
  have y2 := (OP.out.cell 2).trans rfl
  simp only [List.getElem?_cons_zero, List.getElem?_cons_succ] at y0 y2
  obtain ⟨b2, hb2⟩ : ∃ b2 : Bool, (k == 2) = b2 := ⟨_, rfl⟩
  have hb3 : b2 = true → ((lo.length : Int) == 1) = false := fun e => by
    subst e
    have : k = 2 := by simpa using hb2
    have : lo.length ≠ 1 := fun e => hk2 ⟨this, e⟩
    simp
    omega
  have HK3 := Lib.hid hk3
  clear hh hk hk3 hk2
  cases b2
  case' false => clear hb3
  case' true => replace hb3 := hb3 rfl
  all_goals
    go_enter Try.func82, Try.ntmps82
    go_wp2_with fail
    generalize (w.alloc (.cells #[.int .i64 k, .string t, .slice A lo.length ca, .slice B hi.length cb, .slice K kids.length kc, .int .i64 mn, .int .i64 mx] 88)).alloc (.cells #[.int .i64 0, .int .i64 0, .int .i64 0] 49) = W at *
    refine HF.out.mono ?_
    rintro e w1 ⟨rfl, hp1⟩
    have HP1 := Lib.hid hp1
    have hk1 := hp1.k
    rw [List.append_nil] at hk1
    have HK1 := Lib.hid hk1
    have HHC := Lib.hid (HH.out _ _ _ hk1)
    have OP1 := hp1.f.own HM.out.o OP.out (by decide) (by decide)
    have y0 := (OP1.cell 0).trans rfl
    have y1 := (OP1.cell 1).trans rfl
    have y2 := (OP1.cell 2).trans rfl
    have y3 := (OP1.cell 3).trans rfl
    have y4 := (OP1.cell 4).trans rfl
    have y5 := (OP1.cell 5).trans rfl
    have y6 := (OP1.cell 6).trans rfl
    simp only [List.getElem?_cons_zero, List.getElem?_cons_succ] at y0 y1 y2 y3 y4 y5 y6
    clear hp1 hk1 OP1 HF
    go_wp2_with fail
    refine HHC.out.mono ?_
    rintro e w2 ⟨rfl, A2, c2, z2, hp2⟩
    have hp2' : MkP w0 mb rv (xs ++ []) w1 s' A2 c2 z2 w2 := by rw [List.append_nil]; exact hp2
    have HP2 := Lib.hid (HP1.out.trans hp2')
    rw [List.nil_append] at HP2
    have OR2 := Lib.hid (HP2.out.f.own HM.out.o OR.out (by decide) (by decide))
    have r0 := (OR2.out.cell 0).trans rfl
    have r1 := (OR2.out.cell 1).trans rfl
    have r2 := (OR2.out.cell 2).trans rfl
    have f0 := OR2.out.frozen 0
    have f1 := OR2.out.frozen 1
    have f2 := OR2.out.frozen 2
    simp only [List.getElem?_cons_zero, List.getElem?_cons_succ] at r0 r1 r2
    clear hp2 hp2' y0 y1 y2 y3 y4 y5 y6 HHC
    have OF0 := OR2.out.set_ 0 (.int .i64 (s.heads : Int))
    have OF1 := OF0.set_ 1 (.int .i64 0)
    have OF2 := OF1.set_ 2 (.int .i64 0)
    have z0 := (OF0.cell 0).trans rfl
    have z1 := (OF1.cell 1).trans rfl
    have z2' := (OF2.cell 2).trans rfl
    simp only [List.set_cons_zero, List.set_cons_succ, List.getElem?_cons_zero, List.getElem?_cons_succ] at z0 z1 z2'
    have FIN := Lib.hid (MkP.box (a := .int .i64 (s.heads : Int)) (b := .int .i64 0) (c := .int .i64 0) HB0.out HP2.out OR2.out (by omega) OR.out.lt HLOW.out hw0)
    clear OF0 OF1 OF2
    go_wp2
    refine bodyPost_ret (v := .agg #[.int .i64 (s.heads : Int), .int .i64 0, .int .i64 0]) (by simp [results, Try.results82, go_sem, z0, z1, z2']) rfl ⟨rfl, A2, c2, z2, FIN.out⟩

end Go.Proofs.Ytkgiklmdpdakbaa

/- The specification's maker of productions: head, one and body of any part, by induction on its height. -/
namespace Go.Proofs.Ytkgiklmdpdakbaa
open Go.RowKit
set_option linter.unusedVariables false

section
variable {w0 : World} {mb : Nat} {rs : List Ru} {a : Option Addr} {c n : Nat}

/-- A text's or a sequence's body, and a name's. -/
theorem bodyFlat_any {L : Lv} (hL : LvOk rs n L) (IH : OneIH w0 mb rs (.slice a rs.length c) n L) (hr : Rus w0 0 a rs) (hrl : rs.length ≤ 1048576)
    (k : Int) (t : ByteArray) (lo hi : List Int) (kids : List Pt) (mn mx : Int) (A B K : Option Addr) (ca cb kc : Nat) (s : Mk) (Al : Option Addr) (cap : Nat) (xs : List Pv) (w : World)
    (ha : Ask w0 rs (n + 1) k t lo hi kids mn mx A B K) (hroom : HRoom s (Pt.mk k t lo hi kids mn mx).nodes) (hk : MK w0 mb (.slice a rs.length c) s Al cap xs w) (hkk : k = 1 ∨ k = 3 ∨ k = 4) :
    Calls Try.prog 70 #[.pointer (some ⟨mb, 0, none⟩), .agg #[.int .i64 k, .string t, .slice A lo.length ca, .slice B hi.length cb, .slice K kids.length kc, .int .i64 mn, .int .i64 mx]] w (BodyPost w0 mb (.slice a rs.length c) xs (flatB rs L (.mk k t lo hi kids mn mx) s) w) := by
  unfold flatB
  simp only
  rcases hkk with rfl | rfl | rfl
  · rw [if_pos rfl]
    have h4 := ha.lim
    cases h4 with
    | mk _ _ _ _ _ _ _ htl _ _ _ _ =>
    refine (bodyText_any t lo hi kids mn mx A B K ca cb kc mb w htl).mono ?_
    rintro e w' ⟨K', kc', he, ho, hb⟩
    exact ⟨K', kc', he, ho, Al, cap, [], .below hk hb, fun z hz => by simp at hz⟩
  · rw [if_neg (by decide), if_neg (by decide)]
    exact bodyRest_any w0 mb _ 3 (by decide) (by decide) t lo hi kids mn mx A B K ca cb kc s Al cap xs (headSy (ixOf rs t), s) w hk fun X hX => oneName_any w0 rs a c hr hrl t lo hi kids mn mx A B K ca cb kc mb s Al cap xs X hX
  · rw [if_neg (by decide), if_pos rfl]
    rw [nodes_mk] at hroom
    exact bodySeq_any w0 mb rs _ n L hL IH t lo hi kids mn mx A B K ca cb kc s Al cap xs w ha hroom hk

theorem head_any {L : Lv} (hL : LvOk rs n L) (I1 : OneIH w0 mb rs (.slice a rs.length c) n L) (I2 : BodyIH w0 mb rs (.slice a rs.length c) n L) (hr : Rus w0 0 a rs) (hrl : rs.length ≤ 1048576)
    (h : Nat) (k : Int) (t : ByteArray) (lo hi : List Int) (kids : List Pt) (mn mx : Int) (A B K : Option Addr) (ca cb kc : Nat) (s : Mk) (Al : Option Addr) (cap : Nat) (xs : List Pv) (w : World)
    (ha : Ask w0 rs (n + 1) k t lo hi kids mn mx A B K) (hroom : HRoom s (Pt.mk k t lo hi kids mn mx).nodes) (hk : MK w0 mb (.slice a rs.length c) s Al cap xs w) :
    Calls Try.prog 50 #[.pointer (some ⟨mb, 0, none⟩), .int .i64 (h : Int), .agg #[.int .i64 k, .string t, .slice A lo.length ca, .slice B hi.length cb, .slice K kids.length kc, .int .i64 mn, .int .i64 mx]] w (HeadPost w0 mb (.slice a rs.length c) xs (headB rs L h (.mk k t lo hi kids mn mx) s) w) := by
  have hroom' := hroom
  rw [nodes_mk] at hroom'
  have hok := ha.ok
  have hok' := hok
  cases hok with
  | mk _ _ _ _ _ _ _ hal hkids =>
  have rest : (k = 1 ∨ k = 3 ∨ k = 4) → Calls Try.prog 50 #[.pointer (some ⟨mb, 0, none⟩), .int .i64 (h : Int), .agg #[.int .i64 k, .string t, .slice A lo.length ca, .slice B hi.length cb, .slice K kids.length kc, .int .i64 mn, .int .i64 mx]] w (HeadPost w0 mb (.slice a rs.length c) xs (headB rs L h (.mk k t lo hi kids mn mx) s) w) := by
    intro hkk
    have h5 : k ≠ 5 := by omega
    have h2 : k ≠ 2 := by omega
    have h6 : k ≠ 6 := by omega
    have hfew := flatB_few hL (.mk k t lo hi kids mn mx) s hok' (by rw [ht_mk]; exact ha.ht) hkk
    unfold headB
    simp only [if_neg h5, if_neg h2, if_neg h6]
    refine headRest_any w0 mb _ k h5 h2 h6 h t lo hi kids mn mx A B K ca cb kc s Al cap xs (flatB rs L (.mk k t lo hi kids mn mx) s) w hk ?_ fun X hX => bodyFlat_any hL I1 hr hrl k t lo hi kids mn mx A B K ca cb kc s Al cap xs X ha hroom hX hkk
    have h1 := hfew.1.l
    obtain ⟨b1, b2, b3⟩ := hroom
    omega
  rcases hal.2 with q | q | q | q | q | q
  · exact rest (by omega)
  · obtain ⟨rfl, q⟩ := q
    unfold headB
    simp only [if_neg (show ¬ (2 : Int) = 5 by decide), if_pos (show (2 : Int) = 2 from rfl)]
    obtain ⟨b1, b2, b3⟩ := hroom
    exact headRanges_any w0 mb _ h t lo hi kids mn mx A B K ca cb kc s Al cap xs w ha.v q.2.2.2.1 (class_len q.2.2) (by omega) hk
  · exact rest (by omega)
  · exact rest (by omega)
  · obtain ⟨rfl, q⟩ := q
    unfold headB
    simp only [if_pos (show (5 : Int) = 5 from rfl)]
    exact headAlt_any w0 mb rs _ n L hL I2 h t lo hi kids mn mx A B K ca cb kc s Al cap xs w ha hroom' hk
  · obtain ⟨rfl, q1, q2, q3, q4, q5⟩ := q
    match kids, q2, ha, hroom', hk with
    | [p], _, ha, hroom', hk =>
      have e : headB rs L h (.mk 6 t lo hi [p] mn mx) s = manyB L h p mn mx s := by
        unfold headB
        simp
      rw [e]
      refine headMany_any w0 mb _ h t lo hi [p] mn mx A B K ca cb kc s _ Al cap xs w hk fun X hX => ?_
      rcases q5 with q5 | ⟨q5, q6, q7⟩
      · exact manyStar_any w0 mb rs _ n L hL I1 h t lo hi [p] mn mx A B K ca cb kc s Al cap xs X p rfl ha hroom' hX q3 q4 q5
      · exact manyTimes_any w0 mb rs _ n L hL I1 h t lo hi [p] mn mx A B K ca cb kc s Al cap xs X p rfl ha hroom' hX q3 q4 ⟨by omega, q5, q6⟩

theorem one_any {L : Lv} (hL : LvOk rs n L) (I1 : OneIH w0 mb rs (.slice a rs.length c) n L) (I2 : BodyIH w0 mb rs (.slice a rs.length c) n L) (hr : Rus w0 0 a rs) (hrl : rs.length ≤ 1048576)
    (k : Int) (t : ByteArray) (lo hi : List Int) (kids : List Pt) (mn mx : Int) (A B K : Option Addr) (ca cb kc : Nat) (s : Mk) (Al : Option Addr) (cap : Nat) (xs : List Pv) (w : World)
    (ha : Ask w0 rs (n + 1) k t lo hi kids mn mx A B K) (hroom : Room s (Pt.mk k t lo hi kids mn mx).nodes) (hk : MK w0 mb (.slice a rs.length c) s Al cap xs w) :
    Calls Try.prog 82 #[.pointer (some ⟨mb, 0, none⟩), .agg #[.int .i64 k, .string t, .slice A lo.length ca, .slice B hi.length cb, .slice K kids.length kc, .int .i64 mn, .int .i64 mx]] w (OnePost w0 mb (.slice a rs.length c) xs (oneB rs L (.mk k t lo hi kids mn mx) s) w) := by
  unfold oneB
  simp only
  by_cases h3 : k = 3
  · subst h3
    rw [if_pos rfl]
    exact oneName_any w0 rs a c hr hrl t lo hi kids mn mx A B K ca cb kc mb s Al cap xs w hk
  · rw [if_neg h3]
    by_cases h2 : k = 2 ∧ lo.length = 1
    · rw [if_pos h2]
      obtain ⟨rfl, h1⟩ := h2
      have hok := ha.ok
      cases hok with
      | mk _ _ _ _ _ _ _ hal _ =>
      have hc : ClassP lo hi := by rcases hal.2 with h | h | h | h | h | h <;> first | omega | exact h.2.2.2
      exact oneByte_any w0 _ t lo hi kids mn mx A B K ca cb kc mb s Al cap xs w ha.v h1 (by rw [← hc.2.1]; exact h1) hk
    · rw [if_neg h2]
      have h4 := ha.lim
      cases h4 with
      | mk _ _ _ _ _ _ _ _ hlo _ _ _ =>
      exact oneNew_any w0 mb _ k h3 t lo hi h2 hlo kids mn mx A B K ca cb kc s _ Al cap xs w hk (by have := hroom.h; omega) fun X Al' cap' hX => head_any hL I1 I2 hr hrl s.heads k t lo hi kids mn mx A B K ca cb kc s.fresh Al' cap' xs X ha hroom.freshHead hX
theorem body_any {L : Lv} (hL : LvOk rs n L) (I1 : OneIH w0 mb rs (.slice a rs.length c) n L) (I2 : BodyIH w0 mb rs (.slice a rs.length c) n L) (hr : Rus w0 0 a rs) (hrl : rs.length ≤ 1048576)
    (k : Int) (t : ByteArray) (lo hi : List Int) (kids : List Pt) (mn mx : Int) (A B K : Option Addr) (ca cb kc : Nat) (s : Mk) (Al : Option Addr) (cap : Nat) (xs : List Pv) (w : World)
    (ha : Ask w0 rs (n + 1) k t lo hi kids mn mx A B K) (hroom : Room s (Pt.mk k t lo hi kids mn mx).nodes) (hk : MK w0 mb (.slice a rs.length c) s Al cap xs w) :
    Calls Try.prog 70 #[.pointer (some ⟨mb, 0, none⟩), .agg #[.int .i64 k, .string t, .slice A lo.length ca, .slice B hi.length cb, .slice K kids.length kc, .int .i64 mn, .int .i64 mx]] w (BodyPost w0 mb (.slice a rs.length c) xs (bodyB rs L (.mk k t lo hi kids mn mx) s) w) := by
  unfold bodyB
  by_cases hkk : (Pt.mk k t lo hi kids mn mx).kind = 1 ∨ (Pt.mk k t lo hi kids mn mx).kind = 4
  · rw [if_pos hkk]
    exact bodyFlat_any hL I1 hr hrl k t lo hi kids mn mx A B K ca cb kc s Al cap xs w ha hroom.head hk (by simp only [Pt.kind] at hkk; omega)
  · rw [if_neg hkk]
    simp only [Pt.kind] at hkk
    exact bodyRest_any w0 mb _ k (by omega) (by omega) t lo hi kids mn mx A B K ca cb kc s Al cap xs (oneB rs L (.mk k t lo hi kids mn mx) s) w hk fun X hX => one_any hL I1 I2 hr hrl k t lo hi kids mn mx A B K ca cb kc s Al cap xs X ha hroom hX

theorem level_any (hr : Rus w0 0 a rs) (hrl : rs.length ≤ 1048576) : ∀ n, OneIH w0 mb rs (.slice a rs.length c) n (lvl rs n) ∧ BodyIH w0 mb rs (.slice a rs.length c) n (lvl rs n)
  | 0 => ⟨fun k t lo hi kids mn mx A B K ca cb kc s Al cap xs w ha => by have := ha.ht; omega, fun k t lo hi kids mn mx A B K ca cb kc s Al cap xs w ha => by have := ha.ht; omega⟩
  | n + 1 => by
    obtain ⟨I1, I2⟩ := level_any hr hrl n
    exact ⟨fun k t lo hi kids mn mx A B K ca cb kc s Al cap xs w ha hroom hk => one_any (lvl_ok rs n) I1 I2 hr hrl k t lo hi kids mn mx A B K ca cb kc s Al cap xs w ha hroom hk,
      fun k t lo hi kids mn mx A B K ca cb kc s Al cap xs w ha hroom hk => body_any (lvl_ok rs n) I1 I2 hr hrl k t lo hi kids mn mx A B K ca cb kc s Al cap xs w ha hroom hk⟩
end

end Go.Proofs.Ytkgiklmdpdakbaa

/- What the reader of codes does: pick. -/
namespace Go.Proofs.Ytkgiklmdpdakbaa
open Go.RowKit
set_option linter.unusedVariables false

/-- The cells of bytes. -/
def byts (zs : List Int) : List Value := zs.map (.int .u8)
@[simp] theorem byts_length (zs : List Int) : (byts zs).length = zs.length := by simp [byts]
theorem Row.byt {w : World} {a : Option Addr} {zs : List Int} (h : Row w a (byts zs)) {k : Nat} (hk : k < zs.length) :
    ∃ b off, a = some ⟨b, off, none⟩ ∧ w.cell? ⟨b, off + k, none⟩ = some (.int .u8 zs[k]) := by
  obtain ⟨b, off, ha, hc⟩ := h.at_ (k := k) (by simpa using hk)
  exact ⟨b, off, ha, by rw [hc]; simp [byts]⟩

/-- Block 'g' is a reader of bytes that lie elsewhere; it has read at most N times; all this lies below block B. -/
def Rd (w : World) (B g N : Nat) : Prop :=
  ∃ (A : Option Addr) (cap p : Nat) (zs : List Int), Own w g 68 [.slice A zs.length cap, .int .i64 p] ∧ p ≤ N ∧ Row w A (byts zs) ∧ zs.length ≤ 2000 ∧ (∀ z ∈ zs, 0 ≤ z ∧ z ≤ 255) ∧ g < B ∧ (zs = [] ∨ ∃ b off, A = some ⟨b, off, none⟩ ∧ b < B)

/-- What keeps every block below B but maybe one from B on keeps the reader. -/
theorem Rd.keep {w w' : World} {B g N : Nat} (h : Rd w B g N) (hb : ∀ k, k < B → w'.heap[k]? = w.heap[k]?) : Rd w' B g N := by
  obtain ⟨A, cap, p, zs, hown, hp, hrow, hz, hzs, hg, hA⟩ := h
  refine ⟨A, cap, p, zs, (hb g hg).trans hown, hp, ?_, hz, hzs, hg, hA⟩
  rcases hA with h | ⟨b, off, rfl, hbB⟩
  · subst h; exact .inl rfl
  · rcases hrow with h | ⟨b', off', e', hc⟩
    · exact .inl h
    · injection e' with e'; injection e' with e1 e2; subst e1 e2
      exact .inr ⟨b, off, rfl, fun i hi => (World.cell?_of_block (w := w) (hb b hbB)).trans (hc i hi)⟩
theorem Rd.below {w w' : World} {B g N : Nat} (h : Rd w B g N) (hb : Below B w w') : Rd w' B g N := h.keep hb.block
theorem Rd.lt {w : World} {B g N : Nat} (h : Rd w B g N) : g < w.heap.size := by
  obtain ⟨A, cap, p, zs, hown, _⟩ := h
  exact hown.lt
theorem Rd.ltB {w : World} {B g N : Nat} (h : Rd w B g N) : g < B := by
  obtain ⟨A, cap, p, zs, hown, hp, hrow, hz, hzs, hg, hA⟩ := h
  exact hg
theorem Rd.mono {w : World} {B B' g N N' : Nat} (h : Rd w B g N) (hB : B ≤ B') (hN : N ≤ N') : Rd w B' g N' := by
  obtain ⟨A, cap, p, zs, hown, hp, hrow, hz, hzs, hg, hA⟩ := h
  exact ⟨A, cap, p, zs, hown, by omega, hrow, hz, hzs, by omega, hA.imp id fun ⟨b, off, h1, h2⟩ => ⟨b, off, h1, by omega⟩⟩
theorem Rd.drewN {w : World} {B g N : Nat} (h : Rd w B g N) (n : Nat) : Rd (w.drewN n) B g N := h.keep fun _ _ => rfl
theorem Rd.drew {w : World} {B g N : Nat} (h : Rd w B g N) : Rd w.drew B g N := h.keep fun _ _ => rfl
theorem Rd.grown {w w' : World} {B g N : Nat} {row : Option Nat} (h : Rd w B g N) (hB : B ≤ w.heap.size) (hg : w.grownBy w' row) (hr : ∀ k, row = some k → B ≤ k) : Rd w' B g N :=
  h.keep fun k hk => hg.block k (by omega) (fun e => by have := hr k e.symm; omega)
theorem Rd.alloc {w : World} {B g N : Nat} (h : Rd w B g N) (hB : B ≤ w.heap.size) (o : Obj) : Rd (w.alloc o) B g N :=
  h.below ((Below.refl _ _).alloc hB o)
theorem Rd.setCell {w : World} {B g N : Nat} (h : Rd w B g N) {p : Addr} (hp : B ≤ p.block) (u : Value) : Rd (w.setCell p u) B g N :=
  h.below ((Below.refl _ _).setCell hp u)

/-- A number from 0 to n-1 is drawn; only the reader's block has turned. -/
def PickPost (w : World) (B g N : Nat) (n : Int) (e : Ending) (w' : World) : Prop :=
  ∃ v : Int, e = .returned (.int .i64 v) ∧ 0 ≤ v ∧ (v < n ∨ v = 0) ∧ Rd w' B g (N + 1) ∧ w.grownBy w' (some g)

theorem Rd.row {w : World} {g cap : Nat} {p : Int} {n : Nat} {A : Option Addr} {zs : List Int} (hown : Own w g 68 [.slice A n cap, .int .i64 p]) (hrow : Row w A (byts zs)) (u : Value) : Row (w.setCell ⟨g, 1, none⟩ u) A (byts zs) := by
  rcases hrow with h | ⟨b, off, hA, hc⟩
  · exact .inl h
  · refine .inr ⟨b, off, hA, fun i hi => ?_⟩
    have hcell := hc i hi
    have hne : b ≠ g := by
      rintro rfl
      rw [hown.cell] at hcell
      rcases Nat.lt_or_ge (off + i) 2 with h2 | h2
      · rcases (show off + i = 0 ∨ off + i = 1 by omega) with h3 | h3 <;> rw [h3] at hcell <;> simp [byts] at hcell
      · rw [List.getElem?_eq_none (by simpa using h2)] at hcell; cases hcell
    rw [World.cell?_setCell_far _ _ _ _ (fun e => hne e.symm)]
    exact hcell

theorem Rd.step {w : World} {B g N cap p : Nat} {A : Option Addr} {zs : List Int} (hown : Own w g 68 [.slice A zs.length cap, .int .i64 p]) (hp : p ≤ N) (hrow : Row w A (byts zs)) (hz : zs.length ≤ 2000) (hzs : ∀ z ∈ zs, 0 ≤ z ∧ z ≤ 255) (hg : g < B) (hA : zs = [] ∨ ∃ b off, A = some ⟨b, off, none⟩ ∧ b < B) (m : Nat) :
    Rd ((w.setCell ⟨g, 1, none⟩ (.int .i64 ((p : Int) + 1))).drewN m) B g (N + 1) ∧ w.grownBy ((w.setCell ⟨g, 1, none⟩ (.int .i64 ((p : Int) + 1))).drewN m) (some g) := by
  have ho : Own (w.setCell ⟨g, 1, none⟩ (.int .i64 ((p : Int) + 1))) g 68 [.slice A zs.length cap, .int .i64 ((p + 1 : Nat) : Int)] := by simpa using hown.set_ 1 (.int .i64 ((p : Int) + 1))
  refine ⟨⟨A, cap, p + 1, zs, ho.drewN m, by omega, (Rd.row hown hrow _).drewN m, hz, hzs, hg, hA⟩, ⟨rfl, rfl, rfl, by simp [World.setCell], fun i hi hne => ?_⟩⟩
  exact Below.heap_setCell w ⟨g, 1, none⟩ _ i (fun e => hne (by rw [e]))

theorem xor_nonneg (x y : Int) (hx : 0 ≤ x) (hx1 : x < 4611686018427387904) (hy : 0 ≤ y) (hy1 : y < 4611686018427387904) : 0 ≤ bits .xor .i64 x y := by
  obtain ⟨a, rfl⟩ := Int.eq_ofNat_of_zero_le hx
  obtain ⟨b, rfl⟩ := Int.eq_ofNat_of_zero_le hy
  have h1 : (BitVec.ofInt 64 (a : Int)).toNat = a := by rw [BitVec.ofInt_natCast, BitVec.toNat_ofNat]; exact Nat.mod_eq_of_lt (by omega)
  have h2 : (BitVec.ofInt 64 (b : Int)).toNat = b := by rw [BitVec.ofInt_natCast, BitVec.toNat_ofNat]; exact Nat.mod_eq_of_lt (by omega)
  have hlt : a ^^^ b < 2 ^ 62 := Nat.xor_lt_two_pow (by omega) (by omega)
  show 0 ≤ IntKind.i64.wrap ((BitVec.ofInt 64 (a : Int) ^^^ BitVec.ofInt 64 (b : Int)).toNat : Int)
  rw [BitVec.toNat_xor, h1, h2, IntKind.wrap_i64]
  omega
theorem tmod_nat (a b : Nat) : (a : Int).tmod b = ((a % b : Nat) : Int) := by rw [Int.tmod_eq_emod_of_nonneg (by omega)]; rfl
theorem tdiv_nat (a b : Nat) : (a : Int).tdiv b = ((a / b : Nat) : Int) := by rw [Int.tdiv_eq_ediv_of_nonneg (by omega)]; rfl

set_option maxRecDepth 100000 in
set_option maxHeartbeats 1000000 in
theorem pick_any (B g N : Nat) (n : Int) (w : World) (hrd : Rd w B g N) (hN : N ≤ 100000) (hn : n ≤ 100000) (hn0 : -100000 ≤ n) :
    Calls Try.prog 37 #[.pointer (some ⟨g, 0, none⟩), .int .i64 n] w (PickPost w B g N n) := by
  obtain ⟨A, cap, p, zs, hown, hp, hrow, hz, hzs, hgB, hA⟩ := hrd
  have HST := Lib.hid (Rd.step hown hp hrow hz hzs hgB hA)
  clear hA
  have h0 := hown.cell_ (i := 0) (by simp)
  have h1 := hown.cell_ (i := 1) (by simp)
  have f1 := hown.frozen 1
  simp at h0 h1
  have HZS := Lib.hid hzs
  by_cases hn1 : n < 1
  · clear hown hrow hzs
    go_enter Try.func37, Try.ntmps37
    go_wp2
    go_ret
    exact ⟨0, rfl, by omega, .inr rfl, (HST.out 0).1, (HST.out 0).2⟩
  · by_cases hl : zs.length = 0
    · have hl' : ((zs.length : Int) == 0) = true := by simp [hl]
      have hn1' : 1 ≤ n := by omega
      clear hown hrow hzs hl
      go_enter Try.func37, Try.ntmps37
      go_wp2
      go_ret
      exact ⟨0, rfl, by omega, .inr rfl, (HST.out 0).1, (HST.out 0).2⟩
    · have hl' : ((zs.length : Int) == 0) = false := by rw [beq_eq_false_iff_ne]; omega
      have HR := Lib.hid (Rd.row hown hrow (.int .i64 ((p : Int) + 1)))
      by_cases hk : p < zs.length
      · obtain ⟨b, off, rfl, hc⟩ := HR.out.byt hk
        have hv := HZS.out _ (List.getElem_mem hk)
        clear hown hrow hzs
        go_enter Try.func37, Try.ntmps37
        go_wp2
        go_ret
        exact ⟨_, rfl, Int.emod_nonneg _ (by omega), .inl (Int.emod_lt_of_pos _ (by omega)), (HST.out 0).1, (HST.out 0).2⟩
      · have hlp : 0 < zs.length := by omega
        have hm1 := Nat.mod_lt p hlp
        have hm2 := Nat.mod_lt (p * 7 + 3) hlp
        obtain ⟨b, off, rfl, hc1⟩ := HR.out.byt hm1
        obtain ⟨b', off', e', hc2⟩ := HR.out.byt hm2
        simp only [Option.some.injEq, Addr.mk.injEq] at e'
        obtain ⟨rfl, rfl, -⟩ := e'
        have hv1 := HZS.out _ (List.getElem_mem hm1)
        have hv2 := HZS.out _ (List.getElem_mem hm2)
        generalize hg1 : zs[p % zs.length] = z1 at hc1 hv1
        generalize hg2 : zs[(p * 7 + 3) % zs.length] = z2 at hc2 hv2
        clear hg1 hg2
        have hdv : p / zs.length ≤ p := Nat.div_le_self _ _
        obtain ⟨i1, e1⟩ : ∃ i1, p % zs.length = i1 := ⟨_, rfl⟩
        obtain ⟨i2, e2⟩ : ∃ i2, (p * 7 + 3) % zs.length = i2 := ⟨_, rfl⟩
        obtain ⟨q, e3⟩ : ∃ q, p / zs.length = q := ⟨_, rfl⟩
        rw [e1] at hm1 hc1
        rw [e2] at hm2 hc2
        rw [e3] at hdv
        have t1 : (p : Int) % (zs.length : Int) = (i1 : Int) := by rw [← e1]; simp
        have t2 : ((p : Int) * 7 + 3) % (zs.length : Int) = (i2 : Int) := by rw [← e2]; simp
        have t3 : (p : Int) / (zs.length : Int) = (q : Int) := by rw [← e3]; simp
        have b1 : (i1 : Int) < (zs.length : Int) := by omega
        have b2 : (i2 : Int) < (zs.length : Int) := by omega
        have c1 : IntKind.i64.wrap (z1 * 131) = z1 * 131 := IntWalk.i64_in _ (by omega)
        have c2 : IntKind.i64.wrap (z2 * 1117) = z2 * 1117 := IntWalk.i64_in _ (by omega)
        clear e1 e2 e3
        clear hown hrow hzs
        go_enter Try.func37, Try.ntmps37
        go_wp2
        go_quiet (fail)
        go_wp2
        go_ret
        refine ⟨_, rfl, ?_, ?_, (HST.out _).1, (HST.out _).2⟩
        · exact Int.tmod_nonneg _ (xor_nonneg _ _ (by omega) (by omega) (by omega) (by omega))
        · exact .inl (by rw [Int.tmod_eq_emod_of_nonneg (xor_nonneg _ _ (by omega) (by omega) (by omega) (by omega))]; exact Int.emod_lt_of_pos _ (by omega))

end Go.Proofs.Ytkgiklmdpdakbaa

/- What l6Open and l71Bytes do. -/
namespace Go.Proofs.Ytkgiklmdpdakbaa
open Go.RowKit
set_option linter.unusedVariables false

/-- A new reader. -/
def OpenPost (w : World) (e : Ending) (w' : World) : Prop :=
  ∃ g, e = .returned (.pointer (some ⟨g, 0, none⟩)) ∧ w.heap.size ≤ g ∧ Rd w' (g + 1) g 0 ∧ Below w.heap.size w w'

theorem Rd.new {w : World} {A : Option Addr} {cap : Nat} {zs : List Int} (hrow : Row w A (byts zs)) (hz : zs.length ≤ 2000) (hzs : ∀ z ∈ zs, 0 ≤ z ∧ z ≤ 255) :
    Rd (w.alloc (.cells #[.slice A zs.length cap, .int .i64 0] 68)) (w.heap.size + 1) w.heap.size 0 := by
  refine ⟨A, cap, 0, zs, by simpa using Own.new w 68 #[.slice A zs.length cap, .int .i64 0], Nat.le_refl _, hrow.alloc _, hz, hzs, by omega, ?_⟩
  rcases hrow with h | ⟨b, off, hA, hc⟩
  · left; simpa [byts] using h
  · by_cases h0 : zs = []
    · exact .inl h0
    · right
      have hl : 0 < (byts zs).length := by cases zs <;> simp_all
      exact ⟨b, off, hA, by have := cell_lt (hc 0 hl); simp at this; omega⟩

theorem Row.take {w : World} {A : Option Addr} {xs : List Value} (h : Row w A xs) (n : Nat) : Row w A (xs.take n) := by
  rcases h with h | ⟨b, off, hA, hc⟩
  · subst h; simp; exact .inl rfl
  · exact .inr ⟨b, off, hA, fun i hi => by rw [List.getElem_take]; exact hc i (by simp at hi; omega)⟩

set_option maxHeartbeats 400000 in
theorem open_any (A : Option Addr) (cap : Nat) (zs : List Int) (w : World) (hrow : Row w A (byts zs)) (hz : zs.length ≤ 1048576) (hcap : zs.length ≤ cap) (hzs : ∀ z ∈ zs, 0 ≤ z ∧ z ≤ 255) :
    Calls Try.prog 16 #[.slice A zs.length cap] w (OpenPost w) := by
  have HR := Lib.hid hrow
  have HZ := Lib.hid hzs
  clear hrow hzs
  by_cases h : 2000 < zs.length
  · have h' : (2000 : Int) < (zs.length : Int) := by omega
    go_enter Try.func16, Try.ntmps16
    go_wp2
    go_ret
    have hl : (zs.take 2000).length = 2000 := by simp; omega
    refine ⟨w.heap.size, rfl, Nat.le_refl _, ?_, below_box _⟩
    have := Rd.new (w := w) (A := A) (cap := cap) (zs := zs.take 2000) (by have := HR.out.take 2000; simpa [byts, List.map_take] using this) (by omega) (fun z hz => HZ.out z (List.mem_of_mem_take hz))
    rw [hl] at this
    exact this
  · have h' : ¬ (2000 : Int) < (zs.length : Int) := by omega
    go_enter Try.func16, Try.ntmps16
    go_wp2
    go_ret
    exact ⟨w.heap.size, rfl, Nat.le_refl _, Rd.new HR.out (by omega) HZ.out, below_box _⟩

end Go.Proofs.Ytkgiklmdpdakbaa

/- What l71Bytes does: a short text is drawn. -/
namespace Go.Proofs.Ytkgiklmdpdakbaa
open Go.RowKit
set_option linter.unusedVariables false

/-- A text of at most so many bytes is drawn; of what was there only the reader's block has turned. -/
def TextPost (w : World) (B g N m : Nat) (e : Ending) (w' : World) : Prop :=
  ∃ s : ByteArray, e = .returned (.string s) ∧ s.size ≤ m ∧ Rd w' B g (N + 20) ∧ w.grownBy w' (some g)

theorem info5 : (Try.prog.info? 5).map (fun i => (i.zero, i.size, i.bytes)) = some (some (.int .u8 0), 1, 1) := by kernel_rfl

theorem only_trans {a b c : World} {r : Option Nat} (h : a.grownBy b r) (k : b.grownBy c r) : a.grownBy c r :=
  ⟨k.os.trans h.os, k.tape.trans h.tape, k.output.trans h.output, Nat.le_trans h.size k.size, fun i hi hne => (k.block i (Nat.lt_of_lt_of_le hi h.size) hne).trans (h.block i hi hne)⟩
theorem only_of_below {a w : World} {B : Nat} (h : Below B a w) (hB : a.heap.size ≤ B) (row : Option Nat) : a.grownBy w row := ⟨h.os, h.tape, h.output, h.size, fun i hi _ => h.block i (by omega)⟩
theorem only_alloc {a w : World} {row : Option Nat} (h : a.grownBy w row) (o : Obj) : a.grownBy (w.alloc o) row :=
  ⟨h.os, h.tape, h.output, Nat.le_trans h.size (by simp), fun i hi hne => (Below.heap_alloc w o i (Nat.lt_of_lt_of_le hi h.size)).trans (h.block i hi hne)⟩
/-- A step that touches one block that is new touches nothing else that was there. -/
theorem only_new {a w w' : World} {row row' : Option Nat} (h : a.grownBy w row) (k : w.grownBy w' row') (hr : ∀ b, row' = some b → a.heap.size ≤ b) : a.grownBy w' row :=
  ⟨k.os.trans h.os, k.tape.trans h.tape, k.output.trans h.output, Nat.le_trans h.size k.size, fun i hi hne => (k.block i (Nat.lt_of_lt_of_le hi h.size) (fun e => by have := hr i e.symm; omega)).trans (h.block i hi hne)⟩
/-- What a row that is owned from block 'base' on is when only an elder block has turned. -/
theorem own_old {w w' : World} {base g : Nat} {e : TypeId} {size : Nat} {v : Value} {n : Nat} {xs : List Value} (h : w.ownsRow base e size v n xs) (hg : w.grownBy w' (some g)) (hb : g < base) : w'.ownsRow base e size v n xs :=
  h.kept hg (by
    rcases hv : v.ownBlock with _ | k
    · exact .inl rfl
    · right; intro e; injection e with e; have := (h.lt k hv).1; omega)

theorem byts_one (zs : List Int) (x : Int) : byts zs ++ [.int .u8 x] = byts (zs ++ [x]) := by simp [byts]

/-- One byte more. -/
theorem own_byt {w : World} {base : Nat} {v : Value} {zs : List Int} {x : Int} (h : w.ownsRow base 5 1 v (zs.length + 1) (byts zs ++ [.int .u8 x])) :
    ∃ A cap ys, v = .slice A (zs.length + 1) cap ∧ ys.length = zs.length + 1 ∧ w.ownsRow base 5 1 (.slice A ys.length cap) ys.length (byts ys) := by
  rw [byts_one] at h
  obtain ⟨A, cap, rfl⟩ := own_form h
  exact ⟨A, cap, zs ++ [x], rfl, by simp, by simpa using h⟩

/-- Bytes that a call has made, as a string. -/
theorem conv_own {w : World} {base : Nat} {A : Option Addr} {cap : Nat} {zs : List Int} (h : w.ownsRow base 5 1 (.slice A zs.length cap) zs.length (byts zs)) (h0 : 0 < zs.length) :
    (convert 22 9 (.slice A zs.length cap)).run Try.prog w = .ok (.string (strOfNums zs)) w := by
  obtain ⟨b, off, rfl, _⟩ := (own_rowN h).byt h0
  refine run_convert_bytes_arg w 22 5 Try.underlying22 Try.underlying5 b off zs.length cap zs rfl (fun i hi => ?_) 9 Try.underlying9
  obtain ⟨b', off', e', hc⟩ := (own_rowN h).byt hi
  injection e' with e'; injection e' with e1 e2; subst e1 e2
  rw [hc]; simp [List.getD_eq_getElem?_getD, List.getElem?_eq_getElem hi]

set_option maxHeartbeats 1000000 in
theorem bytes_any (B g N : Nat) (m : Nat) (w : World) (hrd : Rd w B g N) (hB : B ≤ w.heap.size) (hN : N ≤ 50000) (hm : 1 ≤ m) (hm1 : m ≤ 10) :
    Calls Try.prog 53 #[.pointer (some ⟨g, 0, none⟩), .int .i64 m] w (TextPost w B g N (m + 1)) := by
  obtain ⟨i0, hi0, hz0, hz1, hz2⟩ := info_parts info5
  have HI := Lib.hid (And.intro hi0 (And.intro hz0 (And.intro hz1 hz2)))
  clear hi0 hz0 hz1 hz2
  have hgB := hrd.ltB
  have HD := Lib.hid hrd
  clear hrd
  go_enter Try.func53, Try.ntmps53
  go_wp2_with fail
  refine (pick_any B g N m _ (HD.out.alloc hB _) (by omega) (by omega) (by omega)).mono ?_
  rintro e w1 ⟨v, rfl, hv0, hv1, hrd1, hg1⟩
  have ho := World.ownsRow_lit (base := w.heap.size) (e := 5) (size := 1) w #[] 0 (by simp) (by simp [maxLen]) rfl
  have ho1 := own_old ho hg1 (by omega)
  have hgw : w.grownBy w1 (some g) := only_trans (only_alloc (only_of_below (Below.refl _ _) (Nat.le_refl _) _) _) hg1
  have HO := Lib.hid ho1
  have HD1 := Lib.hid hrd1
  have HG := Lib.hid hgw
  clear ho ho1 hrd1 hgw hg1
  have hv2 : v + 1 ≤ m := by rcases hv1 with h | h <;> omega
  go_wp2
  go_loopw [5, 6] (fun o c wr => ∃ (zs : List Int) (A : Option Addr) (cap j : Nat), o = .slice A zs.length cap ∧ c = .int .i64 j ∧ zs.length + j ≤ m ∧ 0 < zs.length + j ∧ wr.ownsRow w.heap.size 5 1 (.slice A zs.length cap) zs.length (byts zs) ∧
      Rd wr B g (N + 1 + zs.length) ∧ w.grownBy wr (some g)) (fun _ c _ => (intOf c).toNat)
  case atStart => exact ⟨[], _, _, (v + 1).toNat, rfl, by go_num, by simp; omega, by simp; omega, by simpa [byts] using HO.out, HD1.out, HG.out⟩
  case round =>
    obtain ⟨zs, A, cap, j, rfl, rfl, hj, hj0, hown, hrd2, hgw⟩ := hrel
    have hsz := hgw.size
    by_cases hj1 : 0 < j
    · have hj2 : (0 : Int) < (j : Int) := by omega
      go_wp2_with fail
      refine (pick_any B g _ 6 _ hrd2 (by omega) (by omega) (by omega)).mono ?_
      rintro e w2 ⟨x, rfl, hx0, hx1, hrd3, hg3⟩
      have hx2 : x < 6 := by rcases hx1 with h | h <;> omega
      have hx3 : x.toNat < 6 := by omega
      have hown2 := own_old hown hg3 (by omega)
      have hgw2 := only_trans hgw hg3
      have hs2 := hgw2.size
      clear hown hg3 hgw hrd2
      go_wp2_with (at_builtin; refine wpList_append_own _ rfl _ _ 22 rfl w.heap.size 5 i0 (.int .u8 0) 1 1 Try.underlying22 HI.out.1 HI.out.2.1 HI.out.2.2.1 HI.out.2.2.2 rfl (by decide) _ _ _ rfl (hown2.alloc _) ⟨w2.heap.size, 0, none⟩ 1 1 [_] rfl rfl (cell_one_new _ _ _) ?c2 ?c3 ?c4 ?c5 ?_)
      case c2 => first | rfl | (intro u hu; simp at hu; subst hu; rfl)
      case c3 => unfold maxLen; omega
      case c4 => omega
      case c5 => first | omega | (simp; omega)
      intro v' w3 hown' hgrow _
      have hrd4 := (hrd3.alloc (by omega) _).grown (by simp; omega) hgrow (fun k hk => by have := (hown2.lt k hk).1; omega)
      have hgw3 := only_new (only_alloc hgw2 _) hgrow (fun k hk => (hown2.lt k hk).1)
      obtain ⟨A', cap', ys, rfl, hyl, hown'⟩ := own_byt hown'
      have HY := Lib.hid hyl
      clear hown2 hgrow hgw2 hrd3 hyl
      go_wp2
      go_roundw
      case rel => exact ⟨ys, A', cap', j - 1, by rw [HY.out], by go_num, by rw [HY.out]; omega, by rw [HY.out]; omega, hown', hrd4.mono (Nat.le_refl _) (by rw [HY.out]; omega), hgw3⟩
      case measure => simp [intOf]; omega
    · have hj2 : ¬ (0 : Int) < (j : Int) := by omega
      go_wp2_with fail
      refine (pick_any B g _ 30 _ hrd2 (by omega) (by omega) (by omega)).mono ?_
      rintro e w2 ⟨x, rfl, hx0, hx1, hrd3, hg3⟩
      have hown2 := own_old hown hg3 (by omega)
      have hgw2 := only_trans hgw hg3
      have hs2 := hgw2.size
      clear hown hg3 hgw hrd2
      by_cases hx : x = 0
      · have hx' : (x == 0) = true := by simp [hx]
        clear hx
        go_wp2_with fail
        refine (pick_any B g _ 256 _ hrd3 (by omega) (by omega) (by omega)).mono ?_
        rintro e w3 ⟨y, rfl, hy0, hy1, hrd4, hg4⟩
        have hown3 := own_old hown2 hg4 (by omega)
        have hgw3 := only_trans hgw2 hg4
        have hs3 := hgw3.size
        clear hown2 hg4 hgw2 hrd3
        go_wp2_with (at_builtin; refine wpList_append_own _ rfl _ _ 22 rfl w.heap.size 5 i0 (.int .u8 0) 1 1 Try.underlying22 HI.out.1 HI.out.2.1 HI.out.2.2.1 HI.out.2.2.2 rfl (by decide) _ _ _ rfl (hown3.alloc _) ⟨w3.heap.size, 0, none⟩ 1 1 [_] rfl rfl (cell_one_new _ _ _) ?d2 ?d3 ?d4 ?d5 ?_)
        case d2 => first | rfl | (intro u hu; simp at hu; subst hu; rfl)
        case d3 => unfold maxLen; omega
        case d4 => omega
        case d5 => first | omega | (simp; omega)
        intro v' w4 hown' hgrow _
        have hrd5 := (hrd4.alloc (by omega) _).grown (by simp; omega) hgrow (fun k hk => by have := (hown3.lt k hk).1; omega)
        have hgw4 := only_new (only_alloc hgw3 _) hgrow (fun k hk => (hown3.lt k hk).1)
        obtain ⟨A', cap', ys, rfl, hyl, hown'⟩ := own_byt hown'
        clear hown3 hgrow hgw3 hrd4
        have hcv := conv_own hown' (by omega)
        rw [hyl] at hcv
        have HY := Lib.hid hyl
        clear hyl
        go_wp2
        go_ret
        exact ⟨_, rfl, by rw [strOfNums_size, HY.out]; omega, hrd5.mono (Nat.le_refl _) (by omega), hgw4⟩
      · have hx' : (x == 0) = false := by simpa using hx
        have hcv := conv_own hown2 (by omega)
        go_wp2
        go_ret
        exact ⟨_, rfl, by rw [strOfNums_size]; omega, hrd3.mono (Nat.le_refl _) (by omega), hgw2⟩

end Go.Proofs.Ytkgiklmdpdakbaa

/- What l6Many does. -/
namespace Go.Proofs.Ytkgiklmdpdakbaa
open Go.RowKit
set_option linter.unusedVariables false

def ManyPost (s : ByteArray) (n : Int) (w : World) (e : Ending) (w' : World) : Prop := ∃ t : ByteArray, e = .returned (.string t) ∧ t.size = s.size * n.toNat ∧ w = w'

theorem many_step (o s n : Nat) (h : 0 < n) : o + s * n = (if n % 2 = 1 then o + s else o) + (s + s) * (n / 2) := by
  have h1 := Nat.div_add_mod n 2
  split
  · rename_i hm
    have : n = 2 * (n / 2) + 1 := by omega
    conv => lhs; rw [this]
    rw [Nat.mul_add, Nat.add_mul, Nat.mul_left_comm]
    omega
  · have : n = 2 * (n / 2) := by omega
    conv => lhs; rw [this]
    rw [Nat.mul_left_comm, Nat.add_mul]
    omega

end Go.Proofs.Ytkgiklmdpdakbaa

/- Parts in memory that a draw owns: the cells of a part, and which blocks it reaches. No condition. -/
namespace Go.Proofs.Ytkgiklmdpdakbaa
open Go.RowKit
set_option linter.unusedVariables false

/-- The seven cells of a part. -/
def c7 (k : Int) (t : ByteArray) (A : Option Addr) (la ca : Nat) (B : Option Addr) (lb cb : Nat) (K : Option Addr) (lk kc : Nat) (mn mx : Int) : List Value :=
  [.int .i64 k, .string t, .slice A la ca, .slice B lb cb, .slice K lk kc, .int .i64 mn, .int .i64 mx]

/-- Cells that are a part; all that it reaches lies in blocks of F. -/
inductive PtC (w : World) (F : Nat → Prop) : List Value → Pt → Prop
  | mk (k : Int) (t : ByteArray) (lo hi : List Int) (kids : List Pt) (mn mx : Int) (A B K : Option Addr) (ca cb kc kb ko : Nat) (css : Nat → List Value)
    (hA : Row w A (ints lo)) (hB : Row w B (ints hi)) (lA : lo ≠ [] → ∀ x, A = some x → F x.block) (lB : hi ≠ [] → ∀ x, B = some x → F x.block)
    (hK : kids ≠ [] → K = some ⟨kb, ko, none⟩ ∧ F kb) (hl : ∀ i, i < kids.length → (css i).length = 7)
    (hc : ∀ i, i < kids.length → ∀ j u, (css i)[j]? = some u → w.cell? ⟨kb, ko + i * 7 + j, none⟩ = some u)
    (hk : ∀ i (h : i < kids.length), PtC w F (css i) kids[i]) : PtC w F (c7 k t A lo.length ca B hi.length cb K kids.length kc mn mx) (.mk k t lo hi kids mn mx)

theorem row_block {w : World} {A : Option Addr} {xs : List Value} (h : Row w A xs) (h0 : xs ≠ []) : ∃ x, A = some x ∧ x.block < w.heap.size := by
  rcases h with h | ⟨b, off, ha, hc⟩
  · exact (h0 h).elim
  · exact ⟨_, ha, cell_lt (hc 0 (by cases xs with | nil => exact (h0 rfl).elim | cons _ _ => simp))⟩
theorem ints_ne {lo : List Int} (h : lo ≠ []) : ints lo ≠ [] := by simpa [ints] using h
theorem row_same {w w' : World} {F : Nat → Prop} (hF : ∀ b, F b → b < w.heap.size → w'.heap[b]? = w.heap[b]?) {A : Option Addr} {lo : List Int} (h : Row w A (ints lo)) (lA : lo ≠ [] → ∀ x, A = some x → F x.block) : Row w' A (ints lo) := by
  by_cases h0 : lo = []
  · subst h0; exact .inl rfl
  · rcases h with h | ⟨b, off, ha, hc⟩
    · exact (ints_ne h0 h).elim
    · refine .inr ⟨b, off, ha, fun i hi => ?_⟩
      have hb := lA h0 _ ha
      rw [World.cell?_of_block (w := w) (hF b hb (cell_lt (hc i hi)))]
      exact hc i hi

theorem PtC.mv {w w' : World} {F : Nat → Prop} (hF : ∀ b, F b → b < w.heap.size → w'.heap[b]? = w.heap[b]?) {cs : List Value} {p : Pt} (h : PtC w F cs p) : PtC w' F cs p := by
  induction h with
  | mk k t lo hi kids mn mx A B K ca cb kc kb ko css hA hB lA lB hK hl hc hk ih =>
    refine .mk k t lo hi kids mn mx A B K ca cb kc kb ko css (row_same hF hA lA) (row_same hF hB lB) lA lB hK hl (fun i hi j u hu => ?_) ih
    have h1 := hc i hi j u hu
    have hb := (hK (fun e => by subst e; simp at hi)).2
    rw [World.cell?_of_block (w := w) (hF kb hb (cell_lt h1))]
    exact h1
theorem PtC.mono {w : World} {F F' : Nat → Prop} (hF : ∀ b, F b → b < w.heap.size → F' b) {cs : List Value} {p : Pt} (h : PtC w F cs p) : PtC w F' cs p := by
  induction h with
  | mk k t lo hi kids mn mx A B K ca cb kc kb ko css hA hB lA lB hK hl hc hk ih =>
    refine .mk k t lo hi kids mn mx A B K ca cb kc kb ko css hA hB (fun h0 x hx => ?_) (fun h0 x hx => ?_) (fun h0 => ⟨(hK h0).1, ?_⟩) hl hc ih
    · obtain ⟨y, hy, hlt⟩ := row_block hA (ints_ne h0)
      rw [hx] at hy; injection hy with hy; subst hy
      exact hF _ (lA h0 x hx) hlt
    · obtain ⟨y, hy, hlt⟩ := row_block hB (ints_ne h0)
      rw [hx] at hy; injection hy with hy; subst hy
      exact hF _ (lB h0 x hx) hlt
    · have hpos : 0 < kids.length := List.length_pos_iff.2 h0
      have hl0 := hl 0 hpos
      have h1 := hc 0 hpos 0 ((css 0)[0]'(by omega)) (List.getElem?_eq_getElem _)
      exact hF _ (hK h0).2 (cell_lt h1)
theorem PtC.mv' {w w' : World} {F F' : Nat → Prop} (hF : ∀ b, F b → b < w.heap.size → w'.heap[b]? = w.heap[b]? ∧ F' b) {cs : List Value} {p : Pt} (h : PtC w F cs p) : PtC w' F' cs p :=
  (h.mono (F' := fun b => F b ∧ F' b) fun b hb hl => ⟨hb, (hF b hb hl).2⟩).mv (fun b hb hl => (hF b hb.1 hl).1) |>.mono fun b hb _ => hb.2
theorem PtC.len {w : World} {F : Nat → Prop} {cs : List Value} {p : Pt} (h : PtC w F cs p) : cs.length = 7 := by
  cases h; rfl
theorem PtC.ones {w : World} {F : Nat → Prop} {cs : List Value} {p : Pt} (h : PtC w F cs p) : ∀ u ∈ cs, u.oneCell' = true := by
  cases h
  intro u hu
  simp [c7] at hu
  rcases hu with rfl | rfl | rfl | rfl | rfl | rfl | rfl <;> rfl

/-- A part as the laws on grammars want it. -/
theorem PtC.ptAt {w : World} {F : Nat → Prop} {cs : List Value} {p : Pt} (h : PtC w F cs p) : ∀ {b off : Nat}, (∀ j u, cs[j]? = some u → w.cell? ⟨b, off + j, none⟩ = some u) → PtAt w 0 b off p := by
  induction h with
  | mk k t lo hi kids mn mx A B K ca cb kc kb ko css hA hB lA lB hK hl hc hk ih =>
    intro b off hcell
    exact .mk b off k t lo hi kids mn mx A B K ca cb kc kb ko (hcell 0 _ rfl) (hcell 1 _ rfl) (hcell 2 _ rfl) (hcell 3 _ rfl) (hcell 4 _ rfl) (hcell 5 _ rfl) (hcell 6 _ rfl) hA hB (fun h0 => (hK h0).1)
      (fun i hi => ih i hi fun j u hu => hc i hi j u hu) (Nat.zero_le _) (fun _ _ => Nat.zero_le _) (fun _ _ => Nat.zero_le _)

/-- The i-th seven of a row of cells. -/
def sev (css : List Value) (i : Nat) : List Value := (css.drop (i * 7)).take 7
theorem sev_get {css : List Value} {i j : Nat} (hj : j < 7) : (sev css i)[j]? = css[i * 7 + j]? := by
  unfold sev
  rw [List.getElem?_take_of_lt hj, List.getElem?_drop]
theorem sev_app_left {css cs : List Value} {i : Nat} (h : i * 7 + 7 ≤ css.length) : sev (css ++ cs) i = sev css i := by
  unfold sev
  rw [List.drop_append_of_le_length (by omega), List.take_append_of_le_length (by simp; omega)]
theorem sev_app_right {css cs : List Value} {n i : Nat} (h : css.length = n * 7) (hi : n ≤ i) : sev (css ++ cs) i = sev cs (i - n) := by
  unfold sev
  rw [List.drop_append, List.drop_eq_nil_of_le (by omega), List.nil_append, show i * 7 - css.length = (i - n) * 7 by omega]
theorem sev_len {css : List Value} {i : Nat} (h : i * 7 + 7 ≤ css.length) : (sev css i).length = 7 := by
  unfold sev; simp; omega
theorem sev_one {cs : List Value} (h : cs.length = 7) : sev cs 0 = cs := by
  unfold sev; rw [Nat.zero_mul, List.drop_zero, List.take_of_length_le (by omega)]

/-- A row of parts that the call owns; what they reach lies from block s on, and not in the row itself. -/
def KR (w : World) (s : Nat) (X : Nat → Prop) (v : Value) (kids : List Pt) : Prop :=
  ∃ css, w.ownsRow s 88 7 v kids.length css ∧ ∀ i (h : i < kids.length), PtC w (fun b => s ≤ b ∧ v.ownBlock ≠ some b ∧ X b) (sev css i) kids[i]

theorem KR.nil (w : World) (s : Nat) (X : Nat → Prop) : KR w s X (.slice none 0 0) [] := ⟨[], by simpa using World.ownsRow_nil w s 88 7, fun i h => absurd h (by simp)⟩
theorem KR.form {w : World} {s : Nat} {X : Nat → Prop} {v : Value} {kids : List Pt} (h : KR w s X v kids) : ∃ K kc, v = .slice K kids.length kc := by
  obtain ⟨css, h, _⟩ := h; exact own_form h
theorem KR.keep {w w' : World} {s : Nat} {X : Nat → Prop} {v : Value} {kids : List Pt} (h : KR w s X v kids) (hb : ∀ b, s ≤ b → b < w.heap.size → w'.heap[b]? = w.heap[b]?) : KR w' s X v kids := by
  obtain ⟨css, h, hk⟩ := h
  exact ⟨css, own_same h fun b hb' => hb b (h.lt b hb').1 (h.lt b hb').2, fun i hi => (hk i hi).mv fun b hb' hl => hb b hb'.1 hl⟩
theorem KR.lt {w : World} {s : Nat} {X : Nat → Prop} {v : Value} {kids : List Pt} (h : KR w s X v kids) : ∀ k, v.ownBlock = some k → s ≤ k ∧ k < w.heap.size := by
  obtain ⟨css, h, hk⟩ := h; exact h.lt
/-- Parts are put behind. -/
theorem KR.app {w w' : World} {s : Nat} {X : Nat → Prop} {v v' : Value} {kids ps : List Pt} {css cs : List Value} (hr : w.ownsRow s 88 7 v kids.length css) (hk : ∀ i (h : i < kids.length), PtC w (fun b => s ≤ b ∧ v.ownBlock ≠ some b ∧ X b) (sev css i) kids[i])
    (hp : ∀ i (h : i < ps.length), PtC w (fun b => s ≤ b ∧ v.ownBlock ≠ some b ∧ X b) (sev cs i) ps[i]) (ho : w'.ownsRow s 88 7 v' (kids.length + ps.length) (css ++ cs)) (hg : w.grownBy w' v.ownBlock) (hv : v'.ownBlock = v.ownBlock ∨ v'.ownBlock = some w.heap.size) :
    KR w' s X v' (kids ++ ps) := by
  have mv : ∀ {c : List Value} {p : Pt}, PtC w (fun b => s ≤ b ∧ v.ownBlock ≠ some b ∧ X b) c p → PtC w' (fun b => s ≤ b ∧ v'.ownBlock ≠ some b ∧ X b) c p := fun h => h.mv' fun b hb hl =>
    ⟨hg.block b hl (fun e => hb.2.1 e.symm), hb.1, by rcases hv with e | e <;> rw [e]; exact hb.2.1; (intro e2; injection e2 with e2; omega), hb.2.2⟩
  have hl := hr.1
  refine ⟨css ++ cs, by rw [List.length_append]; exact ho, fun i hi => ?_⟩
  by_cases hlt : i < kids.length
  · rw [sev_app_left (by rw [hl]; omega), List.getElem_append_left hlt]
    exact mv (hk i hlt)
  · rw [sev_app_right hl (by omega), List.getElem_append_right (by omega)]
    exact mv (hp _ _)

/-- A part whose own rows the call owns, too. -/
structure TopP (w : World) (s : Nat) (lo hi : List Int) (kids : List Pt) (A B K : Option Addr) (ca cb kc : Nat) : Prop where
  a : w.ownsRow s 3 1 (.slice A lo.length ca) lo.length (ints lo)
  b : w.ownsRow s 3 1 (.slice B hi.length cb) hi.length (ints hi)
  ab : ∀ k, (Value.slice A lo.length ca).ownBlock = some k → (Value.slice B hi.length cb).ownBlock ≠ some k
  ks : KR w s (fun b => (Value.slice A lo.length ca).ownBlock ≠ some b ∧ (Value.slice B hi.length cb).ownBlock ≠ some b) (.slice K kids.length kc) kids

section
variable {w w' : World} {s : Nat} {lo hi : List Int} {kids : List Pt} {A B K : Option Addr} {ca cb kc : Nat}
theorem TopP.keep (h : TopP w s lo hi kids A B K ca cb kc) (hb : ∀ b, s ≤ b → b < w.heap.size → w'.heap[b]? = w.heap[b]?) : TopP w' s lo hi kids A B K ca cb kc :=
  ⟨own_same h.a fun b hb' => hb b (h.a.lt b hb').1 (h.a.lt b hb').2, own_same h.b fun b hb' => hb b (h.b.lt b hb').1 (h.b.lt b hb').2, h.ab, h.ks.keep hb⟩
theorem own_ints_nil (w : World) (s : Nat) : w.ownsRow s 3 1 (.slice none ([] : List Int).length 0) ([] : List Int).length (ints []) := by simpa [ints] using World.ownsRow_nil w s 3 1
theorem none_block {k n c : Nat} : (Value.slice none n c).ownBlock ≠ some k := by simp [Value.ownBlock]
theorem TopP.bare (w : World) (s : Nat) : TopP w s [] [] [] none none none 0 0 0 :=
  ⟨own_ints_nil w s, own_ints_nil w s, fun k h => (none_block h).elim, KR.nil w s _⟩
theorem KR.mono {X X' : Nat → Prop} {v : Value} {s' : Nat} (h : KR w s X v kids) (hs : s' ≤ s) (hX : ∀ b, s ≤ b → b < w.heap.size → X b → X' b) : KR w s' X' v kids := by
  obtain ⟨css, h, hk⟩ := h
  exact ⟨css, own_base h hs, fun i hi => (hk i hi).mono fun b hb hl => ⟨by omega, hb.2.1, hX b hb.1 hl hb.2.2⟩⟩
theorem TopP.low {s' : Nat} (h : TopP w s lo hi kids A B K ca cb kc) (hs : s' ≤ s) : TopP w s' lo hi kids A B K ca cb kc :=
  ⟨own_base h.a hs, own_base h.b hs, h.ab, h.ks.mono hs fun _ _ _ h => h⟩
/-- Kids of a part that has nothing else. -/
theorem TopP.ofKids {X : Nat → Prop} {n : Nat} (h : KR w s X (.slice K n kc) kids) : TopP w s [] [] kids none none K 0 0 kc :=
  ⟨own_ints_nil w s, own_ints_nil w s, fun k h => (none_block h).elim, by
    obtain ⟨K', kc', e⟩ := h.form
    injection e with _ e2
    subst e2
    exact h.mono (Nat.le_refl _) fun b _ _ _ => ⟨none_block, none_block⟩⟩
/-- A part becomes a kid. -/
theorem TopP.ptC (h : TopP w s lo hi kids A B K ca cb kc) (k : Int) (t : ByteArray) (mn mx : Int) : PtC w (fun b => s ≤ b) (c7 k t A lo.length ca B hi.length cb K kids.length kc mn mx) (.mk k t lo hi kids mn mx) := by
  obtain ⟨css, hr, hk⟩ := h.ks
  have rowBlock : ∀ {A : Option Addr} {n c : Nat} {xs : List Value}, w.ownsRow s 3 1 (.slice A n c) n xs → ∀ x, A = some x → s ≤ x.block := fun h x hx => by
    subst hx; exact (h.lt _ rfl).1
  by_cases h0 : kids = []
  · subst h0
    exact .mk k t lo hi [] mn mx A B K ca cb kc 0 0 (fun _ => []) (own_rowN h.a) (own_rowN h.b) (fun _ => rowBlock h.a) (fun _ => rowBlock h.b) (fun e => (e rfl).elim) (fun i hi => absurd hi (by simp)) (fun i hi => absurd hi (by simp)) (fun i hi => absurd hi (by simp))
  · obtain ⟨g, cap, e, hge, _⟩ := own_some hr (List.length_pos_iff.2 h0)
    injection e with e1 e2 e3
    subst e1 e3
    have hl := hr.1
    refine .mk k t lo hi kids mn mx A B _ ca cb kc g 0 (sev css) (own_rowN h.a) (own_rowN h.b) (fun _ => rowBlock h.a) (fun _ => rowBlock h.b) (fun _ => ⟨rfl, hge⟩) (fun i hi => sev_len (by rw [hl]; omega)) (fun i hi j u hu => ?_) fun i hi => (hk i hi).mono fun b hb _ => hb.1
    have hj : j < 7 := by
      have := (List.getElem?_eq_some_iff.1 hu).1
      rw [sev_len (by rw [hl]; omega)] at this
      exact this
    rw [sev_get hj] at hu
    rw [Nat.zero_add]
    exact own_cellN hr _ u hu
end

end Go.Proofs.Ytkgiklmdpdakbaa

