/- impl.gramCheck.fits: words, its closure, the search through the kids (written by tools/gen_p16.py). -/
import Derived.Test.YtjfohdalpjoaeaaDoorP15
import Derived.Test.YtjfohdalpjoaeaaDoorP13
namespace Go.Proofs.YtjfohdalpjoaeaaDoor
open Go.RowKit
set_option linter.unusedVariables false

theorem kids95 (t : ByteArray) (w : World) : Calls Tryd.prog 95 #[.string t] w fun e w' => e = .returned (.slice none 0 0) ∧ Below w.heap.size w w' := by
  go_enter Tryd.func95, Tryd.ntmps95
  go_wp2
  go_ret
  exact ⟨rfl, Below.refl _ _⟩
theorem kids96 (A B : Value) (w : World) : Calls Tryd.prog 96 #[.agg #[A, B]] w fun e w' => e = .returned (.slice none 0 0) ∧ Below w.heap.size w w' := by
  go_enter Tryd.func96, Tryd.ntmps96
  go_wp2
  go_ret
  exact ⟨rfl, below_box _⟩
theorem kids97 (t : ByteArray) (w : World) : Calls Tryd.prog 97 #[.string t] w fun e w' => e = .returned (.slice none 0 0) ∧ Below w.heap.size w w' := by
  go_enter Tryd.func97, Tryd.ntmps97
  go_wp2
  go_ret
  exact ⟨rfl, Below.refl _ _⟩
theorem kids98 (K : Option Addr) (n c : Nat) (w : World) : Calls Tryd.prog 98 #[.slice K n c] w fun e w' => e = .returned (.slice K n c) ∧ Below w.heap.size w w' := by
  go_enter Tryd.func98, Tryd.ntmps98
  go_wp2
  go_ret
  exact ⟨rfl, Below.refl _ _⟩
theorem kids99 (K : Option Addr) (n c : Nat) (w : World) : Calls Tryd.prog 99 #[.slice K n c] w fun e w' => e = .returned (.slice K n c) ∧ Below w.heap.size w w' := by
  go_enter Tryd.func99, Tryd.ntmps99
  go_wp2
  go_ret
  exact ⟨rfl, Below.refl _ _⟩
theorem kids100 (K : Option Addr) (n c : Nat) (A B : Value) (w : World) : Calls Tryd.prog 100 #[.agg #[.slice K n c, A, B]] w fun e w' => e = .returned (.slice K n c) ∧ Below w.heap.size w w' := by
  go_enter Tryd.func100, Tryd.ntmps100
  go_wp2
  go_ret
  exact ⟨rfl, below_box _⟩
theorem met95 (x : Value) (w : World) : (method 244 95 x "loop.example/fretwork/impl.kids").run Tryd.prog w = .ok (95, x) w := by kernel_rfl
theorem met97 (x : Value) (w : World) : (method 244 97 x "loop.example/fretwork/impl.kids").run Tryd.prog w = .ok (96, x) w := by kernel_rfl
theorem met98 (x : Value) (w : World) : (method 244 98 x "loop.example/fretwork/impl.kids").run Tryd.prog w = .ok (97, x) w := by kernel_rfl
theorem met99 (x : Value) (w : World) : (method 244 99 x "loop.example/fretwork/impl.kids").run Tryd.prog w = .ok (98, x) w := by kernel_rfl
theorem met100 (x : Value) (w : World) : (method 244 100 x "loop.example/fretwork/impl.kids").run Tryd.prog w = .ok (99, x) w := by kernel_rfl
theorem met102 (x : Value) (w : World) : (method 244 102 x "loop.example/fretwork/impl.kids").run Tryd.prog w = .ok (100, x) w := by kernel_rfl

/-- All that was there is as it was, but block g. -/
structure Exc (g : Nat) (w w' : World) : Prop where
  b : Below g w w'
  u : Upon (g + 1) w w'
theorem Exc.of_below {g : Nat} {w w' : World} (hb : Below w.heap.size w w') (hg : g ≤ w.heap.size) : Exc g w w' := ⟨hb.mono hg, .of_below hb⟩
theorem Exc.trans {g : Nat} {x y z : World} (h : Exc g x y) (k : Exc g y z) : Exc g x z := ⟨h.b.trans k.b, h.u.trans h.b.size k.u⟩
theorem Exc.set_ (g i : Nat) (w : World) (v : Value) : Exc g w (w.setCell ⟨g, i, none⟩ v) := ⟨(Below.refl g w).setCell (p := ⟨g, i, none⟩) (Nat.le_refl g) v, .set_ (by simp) _⟩
theorem Exc.drewN {g : Nat} {w w' : World} (h : Exc g w w') (n : Nat) : Exc g w (w'.drewN n) := ⟨below_drewN h.b n, h.u⟩
theorem Exc.own {g : Nat} {w w' : World} (h : Exc g w w') {k : Nat} {t : TypeId} {xs : List Value} (ho : Own w k t xs) (hk : k ≠ g) : Own w' k t xs := by
  rcases Nat.lt_or_gt_of_ne hk with h1 | h1
  · exact (h.b.block k h1).trans ho
  · exact (h.u k h1 ho.lt).trans ho
theorem Exc.base {g : Nat} {w0 w w' : World} (h : Exc g w w') (hb : Below w0.heap.size w0 w) (hg : w0.heap.size ≤ g) : Below w0.heap.size w0 w' := hb.trans (h.b.mono hg)

/-- What a check of a part answers, and what it leaves of the count. -/
def FitPost (g : Nat) (s : Value) (L : Int) (P : Prop) (cnt : Nat) (neg : Bool) (w : World) (e : Ending) (w' : World) : Prop :=
  ∃ (r : Bool) (L' : Int), e = .returned (.bool (if neg then !r else r)) ∧ (r = true ↔ P ∧ (cnt : Int) ≤ L) ∧ (r = true → L' = L - cnt) ∧ Own w' g 54 [s, .int .i64 L'] ∧ Exc g w w'

/-- impl.gramCheck.fits, where so many levels are left. -/
def FitP (d : Nat) : Prop := ∀ (rs : List Ru) (k : Int) (t : ByteArray) (lo hi : List Int) (kids : List Pt) (mn mx : Int) (a A B K : Option Addr) (c ca cb kc B0 B1 g : Nat) (L dp : Int) (w0 w : World), Rus w0 B1 a rs → rs.length ≤ 1048576 → PtV w0 B0 lo hi kids A B K → Lim 1048576 (.mk k t lo hi kids mn mx) → Below w0.heap.size w0 w → w0.heap.size ≤ g → Own w g 54 [.slice a rs.length c, .int .i64 L] → 0 ≤ L → L ≤ 160 → dp + (d : Int) = 9 →
  Calls Tryd.prog 23 #[.pointer (some ⟨g, 0, none⟩), .agg #[.int .i64 k, .string t, .slice A lo.length ca, .slice B hi.length cb, .slice K kids.length kc, .int .i64 mn, .int .i64 mx], .int .i64 dp] w (FitPost g (.slice a rs.length c) L (htL kids + 1 ≤ d ∧ OkP rs (.mk k t lo hi kids mn mx)) (nodesL kids + 1) false w)

set_option maxRecDepth 100000 in
set_option maxHeartbeats 4000000 in
theorem fitClos {d : Nat} (IH : FitP d) (rs : List Ru) (k : Int) (t : ByteArray) (lo hi : List Int) (kids : List Pt) (mn mx : Int) (a A B K : Option Addr) (c ca cb kc B0 B1 g C D : Nat) (L dp : Int) (w0 w : World) (hr : Rus w0 B1 a rs) (hrl : rs.length ≤ 1048576) (hv : PtV w0 B0 lo hi kids A B K) (hl : Lim 1048576 (.mk k t lo hi kids mn mx)) (hb : Below w0.heap.size w0 w) (hg : w0.heap.size ≤ g) (ho : Own w g 54 [.slice a rs.length c, .int .i64 L]) (h0 : 0 ≤ L) (h1 : L ≤ 160) (hd : dp + (d : Int) = 8) (hd8 : d ≤ 8)
    (hC : Own w C 71 [.pointer (some ⟨g, 0, none⟩)]) (hD : Own w D 3 [.int .i64 dp]) :
    Calls Tryd.prog 41 #[.agg #[.int .i64 k, .string t, .slice A lo.length ca, .slice B hi.length cb, .slice K kids.length kc, .int .i64 mn, .int .i64 mx], .pointer (some ⟨C, 0, none⟩), .pointer (some ⟨D, 0, none⟩)] w (FitPost g (.slice a rs.length c) L (htL kids + 1 ≤ d ∧ OkP rs (.mk k t lo hi kids mn mx)) (nodesL kids + 1) true w) := by
  have HC := Lib.hid (IH rs k t lo hi kids mn mx a A B K c ca cb kc B0 B1 g L (dp + 1) w0 (w.alloc (.cells #[.int .i64 k, .string t, .slice A lo.length ca, .slice B hi.length cb, .slice K kids.length kc, .int .i64 mn, .int .i64 mx] 31)) hr hrl hv hl (hb.trans ((below_box _).mono hb.size)) hg (ho.alloc _) h0 h1 (by omega))
  have HX := Lib.hid (Exc.of_below (g := g) (below_box (w := w) (.cells #[.int .i64 k, .string t, .slice A lo.length ca, .slice B hi.length cb, .slice K kids.length kc, .int .i64 mn, .int .i64 mx] 31)) (Nat.le_of_lt ho.lt))
  have c0 : w.cell? ⟨C, 0, none⟩ = some (.pointer (some ⟨g, 0, none⟩)) := by rw [hC.cell]; rfl
  have d0 : w.cell? ⟨D, 0, none⟩ = some (.int .i64 dp) := by rw [hD.cell]; rfl
  have cl := hC.lt
  have dl := hD.lt
  have e1 : dp ≤ 8 := by omega
  have e2 : 0 ≤ dp := by omega
  clear hr hv hl hb ho hC hD hd IH
  go_enter Tryd.func41, Tryd.ntmps41
  go_wp2_with fail
  refine HC.out.mono ?_
  rintro e w2 ⟨r, L', rfl, p1, p2, p3, p4⟩
  have P1 := Lib.hid p1
  have P2 := Lib.hid p2
  have P3 := Lib.hid p3
  have P4 := Lib.hid (HX.out.trans p4)
  clear p1 p2 p3 p4 HC HX
  simp only [Bool.false_eq_true, if_false]
  go_wp2
  go_ret
  exact ⟨r, L', by simp only [if_true]; first | rfl | (cases r <;> rfl), P1.out, P2.out, P3.out, P4.out⟩

def IdxPost (g : Nat) (s : Value) (L : Int) (P : Prop) (cnt : Nat) (w : World) (e : Ending) (w' : World) : Prop :=
  ∃ (r L' : Int), e = .returned (.int .i64 r) ∧ (r < 0 ↔ P ∧ (cnt : Int) ≤ L) ∧ (r < 0 → L' = L - cnt) ∧ Own w' g 54 [s, .int .i64 L'] ∧ Exc g w w'

set_option maxRecDepth 100000 in
set_option maxHeartbeats 4000000 in
theorem kidsFit {d : Nat} (IH : FitP d) (rs : List Ru) (kids : List Pt) (a K : Option Addr) (c kc B0 B1 g C D : Nat) (L dp : Int) (w0 w : World) (hr : Rus w0 B1 a rs) (hrl : rs.length ≤ 1048576) (hk : Pts w0 B0 K kids) (hm : kids.length ≤ 1048576) (hl : ∀ p ∈ kids, Lim 1048576 p) (hb : Below w0.heap.size w0 w) (hg : w0.heap.size ≤ g) (ho : Own w g 54 [.slice a rs.length c, .int .i64 L]) (h0 : 0 ≤ L) (h1 : L ≤ 160) (hd : dp + (d : Int) = 8) (hd8 : d ≤ 8)
    (hC : Own w C 71 [.pointer (some ⟨g, 0, none⟩)]) (hD : Own w D 3 [.int .i64 dp]) (hCg : C ≠ g) (hDg : D ≠ g) :
    Calls Tryd.prog 40 #[.slice K kids.length kc, .func (.func 41) #[] #[.pointer (some ⟨C, 0, none⟩), .pointer (some ⟨D, 0, none⟩)]] w (IdxPost g (.slice a rs.length c) L (∀ p ∈ kids, p.ht ≤ d ∧ OkP rs p) (nodesL kids) w) := by
  have HR := Lib.hid hr
  have HK := Lib.hid hk
  have HL := Lib.hid hl
  have HB := Lib.hid hb
  have HO := Lib.hid ho
  have HC := Lib.hid hC
  have HD := Lib.hid hD
  have HI := Lib.hid IH
  have HDP := Lib.hid hd
  clear hr hk hl hb ho hC hD IH hd
  go_enter Tryd.func40, Tryd.ntmps40
  go_wp2
  go_loopw [9] (fun i wr => ∃ j : Nat, j ≤ kids.length ∧ i = .int .i64 j ∧ Hid (∀ u (h : u < kids.length), u < j → kids[u].ht ≤ d ∧ OkP rs kids[u]) ∧ Hid (Own wr g 54 [.slice a rs.length c, .int .i64 (L - (nodesL (kids.take j) : Int))]) ∧ Hid ((nodesL (kids.take j) : Int) ≤ L) ∧ Hid (Exc g w wr)) (fun i _ => kids.length - (intOf i).toNat)
  case atStart => exact ⟨0, Nat.zero_le _, rfl, fun u _ hu => by omega, by show Own _ _ _ _; simpa [nodesL] using HO.out, by show _ ≤ _; simp [nodesL]; omega, Exc.of_below (Below.refl _ _) (Nat.le_of_lt HO.out.lt)⟩
  case round =>
    obtain ⟨j, hj, rfl, HU, HOJ, HLE, HX⟩ := hrel
    by_cases hlt : j < kids.length
    · have hlt' : (j : Int) < (kids.length : Int) := by omega
      have hbr := HX.out.base HB.out hg
      obtain ⟨b, off, rfl, hp0⟩ := HK.out.at_ hlt
      have hp := hp0.keep hbr
      have hlim := HL.out _ (List.getElem_mem hlt)
      have HU2 : Hid (kids[j].ht ≤ d ∧ OkP rs kids[j] → ∀ u (h : u < kids.length), u < j + 1 → kids[u].ht ≤ d ∧ OkP rs kids[u]) := fun h1 u hu huj => by
        rcases Nat.lt_succ_iff_lt_or_eq.1 huj with h3 | h3
        · exact HU.out u hu h3
        · subst h3; exact h1
      have HNO : Hid ((∀ p ∈ kids, p.ht ≤ d ∧ OkP rs p) ∧ (nodesL kids : Int) ≤ L → (kids[j].ht ≤ d ∧ OkP rs kids[j]) ∧ (kids[j].nodes : Int) ≤ L - (nodesL (kids.take j) : Int)) := fun h => by
        refine ⟨h.1 _ (List.getElem_mem hlt), ?_⟩
        have h3 := nodesL_le kids (j + 1)
        rw [nodesL_take hlt] at h3
        have := h.2
        omega
      have HT := Lib.hid (nodesL_take hlt)
      have hle := HLE.out
      generalize kids[j] = p at *
      obtain ⟨k, t, lo, hi, pk, mn, mx⟩ := p
      rw [ht_mk] at HU2 HNO
      rw [nodes_mk] at HT HNO
      obtain ⟨A, B, K2, ca, cb, kc2, hc, hv⟩ := hp.open_
      obtain ⟨A0, B0', K0, ca0, cb0, kc0, hc0, hv0⟩ := hp0.open_
      have c0 := hc.c0
      have c1 := hc.c1
      have c2 := hc.c2
      have c3 := hc.c3
      have c4 := hc.c4
      have c5 := hc.c5
      have c6 := hc.c6
      have hvk : PtV w0 B0 lo hi pk A B K2 := by
        have e2 := (cell_keep hbr hc0.c2).symm.trans c2
        have e3 := (cell_keep hbr hc0.c3).symm.trans c3
        have e4 := (cell_keep hbr hc0.c4).symm.trans c4
        injection e2 with e2; injection e2 with e2 _ _
        injection e3 with e3; injection e3 with e3 _ _
        injection e4 with e4; injection e4 with e4 _ _
        subst e2 e3 e4
        exact hv0
      generalize nodesL (kids.take j) = x at *
      have hgw : g < wr.heap.size := HOJ.out.lt
      have hbx : Below wr.heap.size wr (wr.alloc (.cells #[.int .i64 k, .string t, .slice A lo.length ca, .slice B hi.length cb, .slice K2 pk.length kc2, .int .i64 mn, .int .i64 mx] 31)) := below_box _
      have HCL := Lib.hid (fitClos HI.out rs k t lo hi pk mn mx a A B K2 c ca cb kc2 B0 B1 g C D (L - (x : Int)) dp w0 (wr.alloc (.cells #[.int .i64 k, .string t, .slice A lo.length ca, .slice B hi.length cb, .slice K2 pk.length kc2, .int .i64 mn, .int .i64 mx] 31)) HR.out hrl hvk hlim (hbr.trans (hbx.mono hbr.size)) hg (HOJ.out.alloc _) (by omega) (by omega) HDP.out hd8 ((HX.out.own HC.out hCg).alloc _) ((HX.out.own HD.out hDg).alloc _))
      have HXB := Lib.hid (HX.out.trans (Exc.of_below hbx (Nat.le_of_lt hgw)))
      clear hp hp0 hv hv0 hc hc0 hvk hlim hbr hbx HU HOJ HLE
      go_wp2_with fail
      refine HCL.out.mono ?_
      rintro e w2 ⟨r, L', rfl, p1, p2, p3, p4⟩
      have P1 := Lib.hid p1
      have P2 := Lib.hid p2
      have P3 := Lib.hid p3
      have P4 := Lib.hid (HXB.out.trans p4)
      clear p1 p2 p3 p4 HCL HXB c0 c1 c2 c3 c4 c5 c6
      simp only [if_true]
      cases r
      · have HF : Hid (¬ ((∀ p ∈ kids, p.ht ≤ d ∧ OkP rs p) ∧ (nodesL kids : Int) ≤ L)) := fun h => by
          have := P1.out.2 (HNO.out h)
          cases this
        go_wp2
        go_ret
        exact ⟨j, L', rfl, ⟨fun h => by omega, fun h => absurd h HF.out⟩, fun h => by omega, P3.out, P4.out⟩
      · have hq := P1.out.1 rfl
        have HU3 := Lib.hid (HU2.out hq.1)
        have HL' := Lib.hid (P2.out rfl)
        have HQ2 := Lib.hid hq.2
        clear hq HU2 HNO
        go_wp2
        go_roundw
        case rel =>
          refine ⟨j + 1, by omega, by go_num, HU3, ?_, ?_, P4⟩
          · show Own _ _ _ _
            rw [HT.out]
            have e := P3.out
            rw [HL'.out] at e
            have e2 : L - ((x + (nodesL pk + 1) : Nat) : Int) = L - (x : Int) - ((nodesL pk + 1 : Nat) : Int) := by omega
            rw [e2]; exact e
          · show _ ≤ _
            rw [HT.out]
            have := HQ2.out
            omega
        case measure => simp [intOf]; omega
    · have hlt' : ¬ (j : Int) < (kids.length : Int) := by omega
      obtain rfl : j = kids.length := by omega
      rw [List.take_length] at HOJ HLE
      have HA : Hid (∀ p ∈ kids, p.ht ≤ d ∧ OkP rs p) := fun p hp => by
        obtain ⟨u, hu, rfl⟩ := List.getElem_of_mem hp
        exact HU.out u hu hu
      go_wp2
      go_ret
      exact ⟨-1, _, rfl, ⟨fun _ => ⟨HA.out, HLE.out⟩, fun _ => by omega⟩, fun _ => rfl, HOJ.out, HX.out⟩

end Go.Proofs.YtjfohdalpjoaeaaDoor
