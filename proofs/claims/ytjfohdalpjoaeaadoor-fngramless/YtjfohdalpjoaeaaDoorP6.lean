/- Rules copied, all of them; grammars copied. -/
import Derived.Test.YtjfohdalpjoaeaaDoorP5
namespace Go.Proofs.YtjfohdalpjoaeaaDoor
open Go.RowKit
set_option linter.unusedVariables false

/-- While rules are copied. -/
structure TR (w0 : World) (g : Nat) (rs : List Ru) (j : Nat) (cur : List Value) (w : World) : Prop where
  o : Own w g 33 cur
  l : cur.length = rs.length * 8
  b : Below w0.heap.size w0 w
  g0 : w0.heap.size ≤ g
  d : ∀ i (h : i < rs.length), i < j → ∀ nm k t lo hi kids mn mx, rs[i] = ⟨nm, .mk k t lo hi kids mn mx⟩ → ∃ A B K ca cb kc, (cur[i * 8]? = some (.string nm) ∧ cur[i * 8 + 1]? = some (.int .i64 k) ∧ cur[i * 8 + 2]? = some (.string t) ∧ cur[i * 8 + 3]? = some (.slice A lo.length ca) ∧ cur[i * 8 + 4]? = some (.slice B hi.length cb) ∧ cur[i * 8 + 5]? = some (.slice K kids.length kc) ∧ cur[i * 8 + 6]? = some (.int .i64 mn) ∧ cur[i * 8 + 7]? = some (.int .i64 mx)) ∧ PtV w (g + 1) lo hi kids A B K

theorem TR.keep {w0 w w' : World} {g j : Nat} {rs : List Ru} {cur : List Value} (h : TR w0 g rs j cur w) (hb : Below w.heap.size w w') : TR w0 g rs j cur w' :=
  ⟨h.o.keep hb, h.l, h.b.trans (hb.mono h.b.size), h.g0, fun i hi hj nm k t lo hi' kids mn mx e => by
    obtain ⟨A, B, K, ca, cb, kc, c, hv⟩ := h.d i hi hj nm k t lo hi' kids mn mx e
    exact ⟨A, B, K, ca, cb, kc, c, hv.keep hb⟩⟩

theorem set8_far (cur : List Value) (j i : Nat) (v0 v1 v2 v3 v4 v5 v6 v7 : Value) (h : i < j * 8 ∨ j * 8 + 8 ≤ i) : ((((((((cur.set (j * 8) v0).set (j * 8 + 1) v1).set (j * 8 + 2) v2).set (j * 8 + 3) v3).set (j * 8 + 4) v4).set (j * 8 + 5) v5).set (j * 8 + 6) v6).set (j * 8 + 7) v7)[i]? = cur[i]? := by
  rw [List.getElem?_set_ne (by omega), List.getElem?_set_ne (by omega), List.getElem?_set_ne (by omega), List.getElem?_set_ne (by omega), List.getElem?_set_ne (by omega), List.getElem?_set_ne (by omega), List.getElem?_set_ne (by omega), List.getElem?_set_ne (by omega)]

theorem TR.put {w0 w : World} {g j : Nat} {rs : List Ru} {cur : List Value} (h : TR w0 g rs j cur w) (hj : j < rs.length) {nm : ByteArray} {k : Int} {t : ByteArray} {lo hi : List Int} {kids : List Pt} {mn mx : Int} (e : rs[j] = ⟨nm, .mk k t lo hi kids mn mx⟩) {A B K : Option Addr} {ca cb kc : Nat} (hv : PtV w (g + 1) lo hi kids A B K) :
    TR w0 g rs (j + 1) ((((((((cur.set (j * 8) (.string nm)).set (j * 8 + 1) (.int .i64 k)).set (j * 8 + 2) (.string t)).set (j * 8 + 3) (.slice A lo.length ca)).set (j * 8 + 4) (.slice B hi.length cb)).set (j * 8 + 5) (.slice K kids.length kc)).set (j * 8 + 6) (.int .i64 mn)).set (j * 8 + 7) (.int .i64 mx)) ((((((((w.setCell ⟨g, j * 8, none⟩ (.string nm)).setCell ⟨g, j * 8 + 1, none⟩ (.int .i64 k)).setCell ⟨g, j * 8 + 2, none⟩ (.string t)).setCell ⟨g, j * 8 + 3, none⟩ (.slice A lo.length ca)).setCell ⟨g, j * 8 + 4, none⟩ (.slice B hi.length cb)).setCell ⟨g, j * 8 + 5, none⟩ (.slice K kids.length kc)).setCell ⟨g, j * 8 + 6, none⟩ (.int .i64 mn)).setCell ⟨g, j * 8 + 7, none⟩ (.int .i64 mx)) := by
  have hl := h.l
  have mv : ∀ {lo hi : List Int} {kids : List Pt} {A B K : Option Addr} (v0 v1 v2 v3 v4 v5 v6 v7 : Value), PtV w (g + 1) lo hi kids A B K → PtV ((((((((w.setCell ⟨g, j * 8, none⟩ v0).setCell ⟨g, j * 8 + 1, none⟩ v1).setCell ⟨g, j * 8 + 2, none⟩ v2).setCell ⟨g, j * 8 + 3, none⟩ v3).setCell ⟨g, j * 8 + 4, none⟩ v4).setCell ⟨g, j * 8 + 5, none⟩ v5).setCell ⟨g, j * 8 + 6, none⟩ v6).setCell ⟨g, j * 8 + 7, none⟩ v7) (g + 1) lo hi kids A B K := by
    intro lo hi kids A B K v0 v1 v2 v3 v4 v5 v6 v7 h
    exact ((((((((h.mv (.set_ (by simp) _)).mv (.set_ (by simp) _)).mv (.set_ (by simp) _)).mv (.set_ (by simp) _)).mv (.set_ (by simp) _)).mv (.set_ (by simp) _)).mv (.set_ (by simp) _)).mv (.set_ (by simp) _))
  refine ⟨((((((((h.o.set_ _ _).set_ _ _).set_ _ _).set_ _ _).set_ _ _).set_ _ _).set_ _ _).set_ _ _), by simp [hl], ((((((((h.b.setCell h.g0 _).setCell h.g0 _).setCell h.g0 _).setCell h.g0 _).setCell h.g0 _).setCell h.g0 _).setCell h.g0 _).setCell h.g0 _), h.g0, fun i hi' hij nm' k' t' lo' hi'' kids' mn' mx' e' => ?_⟩
  by_cases h1 : i < j
  · obtain ⟨A', B', K', ca', cb', kc', ⟨c0, c1, c2, c3, c4, c5, c6, c7⟩, hv'⟩ := h.d i hi' h1 nm' k' t' lo' hi'' kids' mn' mx' e'
    refine ⟨A', B', K', ca', cb', kc', ⟨?_, ?_, ?_, ?_, ?_, ?_, ?_, ?_⟩, mv _ _ _ _ _ _ _ _ hv'⟩
    · rw [set8_far _ _ _ _ _ _ _ _ _ _ _ (by omega)]; exact c0
    · rw [set8_far _ _ _ _ _ _ _ _ _ _ _ (by omega)]; exact c1
    · rw [set8_far _ _ _ _ _ _ _ _ _ _ _ (by omega)]; exact c2
    · rw [set8_far _ _ _ _ _ _ _ _ _ _ _ (by omega)]; exact c3
    · rw [set8_far _ _ _ _ _ _ _ _ _ _ _ (by omega)]; exact c4
    · rw [set8_far _ _ _ _ _ _ _ _ _ _ _ (by omega)]; exact c5
    · rw [set8_far _ _ _ _ _ _ _ _ _ _ _ (by omega)]; exact c6
    · rw [set8_far _ _ _ _ _ _ _ _ _ _ _ (by omega)]; exact c7
  · have hij' : i = j := by omega
    subst hij'
    rw [e] at e'
    injection e' with e0 e'
    injection e' with e1 e2 e3 e4 e5 e6 e7
    subst e0 e1 e2 e3 e4 e5 e6 e7
    refine ⟨A, B, K, ca, cb, kc, ⟨?_, ?_, ?_, ?_, ?_, ?_, ?_, ?_⟩, mv _ _ _ _ _ _ _ _ hv⟩
    · rw [List.getElem?_set_ne (by omega), List.getElem?_set_ne (by omega), List.getElem?_set_ne (by omega), List.getElem?_set_ne (by omega), List.getElem?_set_ne (by omega), List.getElem?_set_ne (by omega), List.getElem?_set_ne (by omega), List.getElem?_set_self (by omega)]
    · rw [List.getElem?_set_ne (by omega), List.getElem?_set_ne (by omega), List.getElem?_set_ne (by omega), List.getElem?_set_ne (by omega), List.getElem?_set_ne (by omega), List.getElem?_set_ne (by omega), List.getElem?_set_self (by simp; omega)]
    · rw [List.getElem?_set_ne (by omega), List.getElem?_set_ne (by omega), List.getElem?_set_ne (by omega), List.getElem?_set_ne (by omega), List.getElem?_set_ne (by omega), List.getElem?_set_self (by simp; omega)]
    · rw [List.getElem?_set_ne (by omega), List.getElem?_set_ne (by omega), List.getElem?_set_ne (by omega), List.getElem?_set_ne (by omega), List.getElem?_set_self (by simp; omega)]
    · rw [List.getElem?_set_ne (by omega), List.getElem?_set_ne (by omega), List.getElem?_set_ne (by omega), List.getElem?_set_self (by simp; omega)]
    · rw [List.getElem?_set_ne (by omega), List.getElem?_set_ne (by omega), List.getElem?_set_self (by simp; omega)]
    · rw [List.getElem?_set_ne (by omega), List.getElem?_set_self (by simp; omega)]
    · rw [List.getElem?_set_self (by simp; omega)]

theorem TR.done {w0 w : World} {g j : Nat} {rs : List Ru} {cur : List Value} (h : TR w0 g rs j cur w) (hj : rs.length ≤ j) : Rus w w0.heap.size (some ⟨g, 0, none⟩) rs := by
  refine .inr ⟨g, 0, rfl, h.g0, fun i hi => ?_⟩
  obtain ⟨nm, k, t, lo, hi', kids, mn, mx, e⟩ : ∃ nm k t lo hi kids mn mx, rs[i] = ⟨nm, .mk k t lo hi kids mn mx⟩ := by
    obtain ⟨nm, p⟩ := rs[i]
    cases p
    exact ⟨_, _, _, _, _, _, _, _, rfl⟩
  obtain ⟨A, B, K, ca, cb, kc, ⟨c0, c1, c2, c3, c4, c5, c6, c7⟩, hv⟩ := h.d i hi (by omega) nm k t lo hi' kids mn mx e
  rw [e, Nat.zero_add]
  refine ⟨by rw [h.o.cell]; exact c0, PtCells.mk_ (A := A) (B := B) (K := K) (ca := ca) (cb := cb) (kc := kc) ⟨?_, ?_, ?_, ?_, ?_, ?_, ?_⟩ (hv.low (by have := h.g0; omega)) h.g0⟩
  · rw [h.o.cell]; exact c1
  · rw [h.o.cell]; exact c2
  · rw [h.o.cell]; exact c3
  · rw [h.o.cell]; exact c4
  · rw [h.o.cell]; exact c5
  · rw [h.o.cell]; exact c6
  · rw [h.o.cell]; exact c7

/-- New rules. -/
def NewRus (rs : List Ru) (w : World) (e : Ending) (w' : World) : Prop :=
  ∃ A, e = .returned (.slice A rs.length rs.length) ∧ Rus w' w.heap.size A rs ∧ Below w.heap.size w w'

set_option maxRecDepth 100000 in
set_option maxHeartbeats 1000000 in
theorem toRules_any (rs : List Ru) (a : Option Addr) (c B0 : Nat) (w : World) (hr : Rus w B0 a rs) (hm : rs.length ≤ 1048576) (hl : LimR 1048576 rs) :
    Calls Tryd.prog 25 #[.slice a rs.length c] w (NewRus rs w) := by
  obtain ⟨i0, hi0, hz0, hz1, hz2⟩ := info_parts info33
  have HI0 := Lib.hid (And.intro hi0 (And.intro hz0 (And.intro hz1 hz2)))
  clear hi0 hz0 hz1 hz2
  have HR := Lib.hid hr
  have HL := Lib.hid hl
  clear hr hl
  go_enter Tryd.func25, Tryd.ntmps25
  go_wp2_with (refine wpList_make_full _ rfl _ _ 23 rfl w.heap.size 33 i0 (.agg #[.string ByteArray.empty, .int .i64 0, .string ByteArray.empty, .slice none 0 0, .slice none 0 0, .slice none 0 0, .int .i64 0, .int .i64 0]) 8 Tryd.underlying23 HI0.out.1 HI0.out.2.1 HI0.out.2.2.1 .i64 .i64 rs.length rs.length rs.length rfl rfl rfl rfl (by rw [HI0.out.2.2.2]; omega) (by unfold maxLen; omega) (by omega) ?_)
  intro w1 hown1 hgr1
  have HT0 : Hid (TR w w.heap.size rs 0 _ w1) := ⟨own_of_row hown1, by simp [size_madeCells], (Below.refl _ _).grown hgr1 (Nat.le_refl _) (fun k hk => by cases hk), Nat.le_refl _, fun i _ hi => by omega⟩
  clear hown1 hgr1
  go_wp2
  go_loopw [4] (fun i wr => ∃ j : Nat, j ≤ rs.length ∧ i = .int .i64 j ∧ ∃ cur, Hid (TR w w.heap.size rs j cur wr)) (fun i _ => rs.length - (intOf i).toNat)
  case atStart => exact ⟨0, Nat.zero_le _, rfl, _, HT0⟩
  case round =>
    clear HT0
    obtain ⟨j, hj, rfl, cur, HT⟩ := hrel
    by_cases hlt : j < rs.length
    · have hlt' : (j : Int) < (rs.length : Int) := by omega
      obtain ⟨b, off, rfl, hp⟩ := (HR.out.keep HT.out.b).at_ hlt
      have hlim := HL.out _ (List.getElem_mem hlt)
      obtain ⟨nm, pk, pt, plo, phi, pkids, pmn, pmx, hpe⟩ : ∃ nm k t lo hi ks mn mx, rs[j] = ⟨nm, .mk k t lo hi ks mn mx⟩ := by
        obtain ⟨nm, p⟩ := rs[j]
        cases p
        exact ⟨_, _, _, _, _, _, _, _, rfl⟩
      rw [hpe] at hp hlim
      obtain ⟨n0, hp⟩ := hp
      simp only at n0 hp hlim
      obtain ⟨PA, PB, PK, pa, pb, pc, hc, hv⟩ := hp.open_
      obtain ⟨c0, c1, c2, c3, c4, c5, c6⟩ := hc
      simp only [Nat.add_assoc, Nat.reduceAdd] at c0 c1 c2 c3 c4 c5 c6
      simp only [← Nat.add_assoc] at c0 c1 c2 c3 c4 c5 c6
      have HC := Lib.hid (toRule_any nm pk pt plo phi pkids pmn pmx PA PB PK pa pb pc B0 wr hv hlim.2)
      have HPE := Lib.hid hpe
      have hgw : w.heap.size < wr.heap.size := HT.out.o.lt
      clear hp hv hlim hpe
      go_wp2_with fail
      refine HC.out.mono ?_
      rintro e w2 ⟨A2, B2, K2, rfl, hv2, hb2⟩
      have HT2 := HT.out.keep hb2
      have HP := Lib.hid (HT2.put hlt HPE.out (ca := plo.length) (cb := phi.length) (kc := pkids.length) (hv2.low (by omega)))
      have hl := HT2.l
      have hg2 := HT2.o.lt
      obtain ⟨v0, hv0'⟩ : ∃ v, w2.cell? ⟨w.heap.size, j * 8, none⟩ = some v := ⟨_, HT2.o.cell_ (by omega)⟩
      have f0 := HT2.o.frozen (j * 8)
      obtain ⟨v1, hv1'⟩ : ∃ v, w2.cell? ⟨w.heap.size, j * 8 + 1, none⟩ = some v := ⟨_, HT2.o.cell_ (by omega)⟩
      have f1 := HT2.o.frozen (j * 8 + 1)
      obtain ⟨v2, hv2'⟩ : ∃ v, w2.cell? ⟨w.heap.size, j * 8 + 2, none⟩ = some v := ⟨_, HT2.o.cell_ (by omega)⟩
      have f2 := HT2.o.frozen (j * 8 + 2)
      obtain ⟨v3, hv3'⟩ : ∃ v, w2.cell? ⟨w.heap.size, j * 8 + 3, none⟩ = some v := ⟨_, HT2.o.cell_ (by omega)⟩
      have f3 := HT2.o.frozen (j * 8 + 3)
      obtain ⟨v4, hv4'⟩ : ∃ v, w2.cell? ⟨w.heap.size, j * 8 + 4, none⟩ = some v := ⟨_, HT2.o.cell_ (by omega)⟩
      have f4 := HT2.o.frozen (j * 8 + 4)
      obtain ⟨v5, hv5'⟩ : ∃ v, w2.cell? ⟨w.heap.size, j * 8 + 5, none⟩ = some v := ⟨_, HT2.o.cell_ (by omega)⟩
      have f5 := HT2.o.frozen (j * 8 + 5)
      obtain ⟨v6, hv6'⟩ : ∃ v, w2.cell? ⟨w.heap.size, j * 8 + 6, none⟩ = some v := ⟨_, HT2.o.cell_ (by omega)⟩
      have f6 := HT2.o.frozen (j * 8 + 6)
      obtain ⟨v7, hv7'⟩ : ∃ v, w2.cell? ⟨w.heap.size, j * 8 + 7, none⟩ = some v := ⟨_, HT2.o.cell_ (by omega)⟩
      have f7 := HT2.o.frozen (j * 8 + 7)
      clear HT HT2 hb2 HC c0 c1 c2 c3 c4 c5 c6 hv2 n0
      go_wp2
      go_roundw
      case rel => exact ⟨j + 1, by omega, by go_num, _, HP⟩
      case measure => simp [intOf]; omega
    · have hlt' : ¬ (j : Int) < (rs.length : Int) := by omega
      go_wp2
      go_ret
      exact ⟨_, rfl, HT.out.done (by omega), HT.out.b⟩

end Go.Proofs.YtjfohdalpjoaeaaDoor
