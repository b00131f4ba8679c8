/- Schemas copied: toBoolS, toSchema, toSchemaS. (written by gen_s2.py from J2) -/
import Derived.Test.YtkhcappjhefkjaaGreatDoorJ2
import Derived.Test.YtkhcappjhefkjaaGreatDoorS1
namespace Go.Proofs.YtkhcappjhefkjaaGreatDoor
open Go.RowKit
set_option linter.unusedVariables false

theorem infoBl : (Tryz.prog.info? 4).map (fun i => (i.zero, i.size, i.bytes)) = some (some (.bool false), 1, 1) := by kernel_rfl
theorem infoSm : (Tryz.prog.info? 31).map (fun i => (i.zero, i.size, i.bytes)) = some (some (.agg #[.int .i64 0, .int .i64 0, .int .i64 0, .slice none 0 0, .slice none 0 0, .slice none 0 0]), 6, 96) := by kernel_rfl

/-- A new slice of bools. -/
def NewBools (ss : List Bool) (w : World) (e : Ending) (w' : World) : Prop :=
  ∃ g, e = .returned (.slice (some ⟨g, 0, none⟩) ss.length ss.length) ∧ w.heap.size ≤ g ∧ Own w' g 4 (bols ss) ∧ Below w.heap.size w w'
theorem bols_snoc (ss : List Bool) (k : Nat) (h : k < ss.length) : bols (ss.take (k + 1)) = bols (ss.take k) ++ [.bool ss[k]] := by
  unfold bols; rw [List.take_succ_eq_append_getElem h, List.map_append]; rfl
theorem Row.bol {w : World} {A : Option Addr} {ms : List Bool} (h : Row w A (bols ms)) {i : Nat} (hi : i < ms.length) : ∃ b off, A = some ⟨b, off, none⟩ ∧ w.cell? ⟨b, off + i, none⟩ = some (.bool ms[i]) := by
  rcases h with h | ⟨b, off, hA, hc⟩
  · have h1 : (bols ms).length = ms.length := by simp
    rw [h] at h1; simp at h1; omega
  · exact ⟨b, off, hA, by have := hc i (by simpa using hi); simpa [bols] using this⟩

set_option maxHeartbeats 400000 in
theorem toB_any (a : Option Addr) (c : Nat) (ss : List Bool) (w : World) (hr : Row w a (bols ss)) (hm : ss.length ≤ 1048576) :
    Calls Tryz.prog 40 #[.slice a ss.length c] w (NewBools ss w) := by
  have HR := Lib.hid hr
  clear hr
  have hmk := run_make_row' (P := Tryz.prog) 23 4 (.bool false) 1 Tryz.underlying23 infoBl rfl .i64 .i64 ss.length (by omega) (by omega)
  go_enter Tryz.func40, Tryz.ntmps40
  go_wp2
  clear hmk
  go_loopw [4] (fun i wr => ∃ k : Nat, k ≤ ss.length ∧ i = .int .i64 k ∧ Own wr w.heap.size 4 (bols (ss.take k) ++ List.replicate (ss.length - k) (.bool false)) ∧ Below w.heap.size w wr) (fun i _ => ss.length - (intOf i).toNat)
  case atStart => exact ⟨0, Nat.zero_le _, rfl, by simpa [bols] using Own.made w 4 (.bool false) ss.length, below_box _⟩
  case round =>
    obtain ⟨k, hk, rfl, hown, hb⟩ := hrel
    by_cases hlt : k < ss.length
    · obtain ⟨b, off, rfl, hc⟩ := (HR.out.keep hb).bol hlt
      have hl : (bols (ss.take k)).length = k := by simp; omega
      obtain ⟨v, hv⟩ : ∃ v, wr.cell? ⟨w.heap.size, k, none⟩ = some v := ⟨_, hown.cell_ (by simp; omega)⟩
      have hf := hown.frozen k
      have R : Own (wr.setCell ⟨w.heap.size, k, none⟩ (.bool ss[k])) w.heap.size 4 (bols (ss.take (k + 1)) ++ List.replicate (ss.length - (k + 1)) (.bool false)) := by
        have := hown.set_ k (.bool ss[k])
        rwa [set_next hl hlt, ← bols_snoc ss k hlt] at this
      have HB : Below w.heap.size w (wr.setCell ⟨w.heap.size, k, none⟩ (.bool ss[k])) := hb.setCell (Nat.le_refl _) _
      clear hown hb
      go_wp2
      go_roundw
      case rel => exact ⟨k + 1, by omega, by go_num, R, HB⟩
      case measure => simp [intOf]; omega
    · go_wp2
      go_ret
      have hkk : k = ss.length := by omega
      subst hkk
      exact ⟨_, rfl, Nat.le_refl _, by simpa using hown, hb⟩

/-- A copy of a value: all of it is new. -/
def NewSc (k mn mx : Int) (ns : List ByteArray) (ms : List Bool) (kids : List Sc) (w : World) (e : Ending) (w' : World) : Prop :=
  ∃ A M K, e = .returned (.agg #[.int .i64 k, .int .i64 mn, .int .i64 mx, .slice A ns.length ns.length, .slice M ms.length ms.length, .slice K kids.length kids.length]) ∧ ScV w' w.heap.size ns ms kids A M K ∧ Below w.heap.size w w'
def NewScs (kids : List Sc) (w : World) (e : Ending) (w' : World) : Prop :=
  ∃ K, e = .returned (.slice K kids.length kids.length) ∧ Scs w' w.heap.size K kids ∧ Below w.heap.size w w'

/-- Copying of values that are at most so high. -/
def ToSP (n : Nat) : Prop := ∀ (k mn mx : Int) (ns : List ByteArray) (ms : List Bool) (kids : List Sc) (A M K : Option Addr) (ca ma kc B0 : Nat) (w : World), htS kids + 1 ≤ n → ScV w B0 ns ms kids A M K → LimS 1048576 (.mk k mn mx ns ms kids) →
  Calls Tryz.prog 17 #[.agg #[.int .i64 k, .int .i64 mn, .int .i64 mx, .slice A ns.length ca, .slice M ms.length ma, .slice K kids.length kc]] w (NewSc k mn mx ns ms kids w)

set_option maxRecDepth 100000 in
set_option maxHeartbeats 2000000 in
theorem tosStep {n : Nat} (IHK : ∀ (kids : List Sc) (K : Option Addr) (kc B0 : Nat) (w : World), htS kids ≤ n → Scs w B0 K kids → kids.length ≤ 1048576 → (∀ p ∈ kids, LimS 1048576 p) → Calls Tryz.prog 41 #[.slice K kids.length kc] w (NewScs kids w)) : ToSP (n + 1) := by
  intro k mn mx ns ms kids A M K ca ma kc B0 w hh hv hl
  have HI := Lib.hid IHK
  have HV := Lib.hid hv
  cases hl with
  | mk _ _ _ _ _ _ l2 l3 lm l4 l5 lb =>
  have HL5 := Lib.hid l5
  clear IHK hv l5 l3 lb
  obtain ⟨W0, hW0⟩ : ∃ W0, ((w.alloc (.cells #[.int .i64 k, .int .i64 mn, .int .i64 mx, .slice A ns.length ca, .slice M ms.length ma, .slice K kids.length kc] 26)).alloc (.cells #[.int .i64 0, .int .i64 0, .int .i64 0, .slice none 0 0, .slice none 0 0, .slice none 0 0] 31)).alloc (.cells #[.int .i64 k, .int .i64 mn, .int .i64 mx, .slice none 0 0, .slice none 0 0, .slice none 0 0] 31) = W0 := ⟨_, rfl⟩
  have O1 : Own W0 w.heap.size 26 [.int .i64 k, .int .i64 mn, .int .i64 mx, .slice A ns.length ca, .slice M ms.length ma, .slice K kids.length kc] := by
    rw [← hW0]; exact ((Own.new w 26 #[.int .i64 k, .int .i64 mn, .int .i64 mx, .slice A ns.length ca, .slice M ms.length ma, .slice K kids.length kc]).alloc _).alloc _
  have O2 : Own W0 (w.heap.size + 1) 31 [.int .i64 0, .int .i64 0, .int .i64 0, .slice none 0 0, .slice none 0 0, .slice none 0 0] := by
    have h := (Own.new (w.alloc (.cells #[.int .i64 k, .int .i64 mn, .int .i64 mx, .slice A ns.length ca, .slice M ms.length ma, .slice K kids.length kc] 26)) 31 #[.int .i64 0, .int .i64 0, .int .i64 0, .slice none 0 0, .slice none 0 0, .slice none 0 0])
    rw [World.size_alloc] at h
    rw [← hW0]; exact h.alloc _
  have O3 : Own W0 (w.heap.size + 2) 31 [.int .i64 k, .int .i64 mn, .int .i64 mx, .slice none 0 0, .slice none 0 0, .slice none 0 0] := by
    have h := (Own.new ((w.alloc (.cells #[.int .i64 k, .int .i64 mn, .int .i64 mx, .slice A ns.length ca, .slice M ms.length ma, .slice K kids.length kc] 26)).alloc (.cells #[.int .i64 0, .int .i64 0, .int .i64 0, .slice none 0 0, .slice none 0 0, .slice none 0 0] 31)) 31 #[.int .i64 k, .int .i64 mn, .int .i64 mx, .slice none 0 0, .slice none 0 0, .slice none 0 0])
    rw [World.size_alloc, World.size_alloc] at h
    rw [← hW0]; exact h
  have hbW : Below w.heap.size w W0 := by rw [← hW0]; exact ((below_box _).alloc (by simp) _).alloc (by simp; omega) _
  have HW := Lib.hid hW0
  clear hW0
  go_enter Tryz.func17, Tryz.ntmps17
  go_wp2_with fail
  rw [HW.out]
  have sz0 := O3.lt
  refine (toS_any A ca ns W0 (HV.out.a.keep hbW) l2).mono ?_
  rintro e w1 ⟨g1, rfl, hg1, hown1, hb1⟩
  have hbx1 : Below w.heap.size w w1 := hbW.trans (hb1.mono hbW.size)
  replace O1 := O1.keep hb1
  replace O2 := O2.keep hb1
  replace O3 := O3.keep hb1
  have hg1' : w.heap.size + 2 < g1 := by omega
  clear hb1 hbW HW
  have a4 : w1.cell? ⟨w.heap.size, 4, none⟩ = some (.slice M ms.length ma) := by rw [O1.cell]; rfl
  have s3 : w1.cell? ⟨w.heap.size + 2, 3, none⟩ = some (.slice none 0 0) := by rw [O3.cell]; rfl
  have f3 := O3.frozen 3
  have z1 := O3.lt
  have z0 := O1.lt
  have HB1 := Lib.hid (hbx1.setCell (p := ⟨w.heap.size + 2, 3, none⟩) (by simp) (.slice (some ⟨g1, 0, none⟩) ns.length ns.length))
  have P1 := Lib.hid (O1.far (p := ⟨w.heap.size + 2, 3, none⟩) (by simp) (.slice (some ⟨g1, 0, none⟩) ns.length ns.length))
  have P2 := Lib.hid (O2.far (p := ⟨w.heap.size + 2, 3, none⟩) (by simp) (.slice (some ⟨g1, 0, none⟩) ns.length ns.length))
  have P3 := Lib.hid (O3.set_ 3 (.slice (some ⟨g1, 0, none⟩) ns.length ns.length))
  have P4 := Lib.hid (hown1.far (p := ⟨w.heap.size + 2, 3, none⟩) (by simp; omega) (.slice (some ⟨g1, 0, none⟩) ns.length ns.length))
  clear hbx1 O1 O2 O3 hown1 sz0
  go_wp2_with fail
  generalize w1.setCell ⟨w.heap.size + 2, 3, none⟩ (.slice (some ⟨g1, 0, none⟩) ns.length ns.length) = x1 at *
  clear a4 s3 f3 z1 z0
  refine (toB_any M ma ms x1 (HV.out.m.keep HB1.out) lm).mono ?_
  rintro e w2 ⟨g2, rfl, hg2, hown2, hb2⟩
  have hbx2 : Below w.heap.size w w2 := HB1.out.trans (hb2.mono HB1.out.size)
  have O1 := P1.out.keep hb2
  have O2 := P2.out.keep hb2
  have O3 := P3.out.keep hb2
  have O4 := P4.out.keep hb2
  simp only [List.set_cons_zero, List.set_cons_succ] at O3
  have hgx1 : g1 < x1.heap.size := P4.out.lt
  have hg2' : w.heap.size + 2 < g2 := by have := P3.out.lt; omega
  have a5 : w2.cell? ⟨w.heap.size, 5, none⟩ = some (.slice K kids.length kc) := by rw [O1.cell]; rfl
  have s4 : w2.cell? ⟨w.heap.size + 2, 4, none⟩ = some (.slice none 0 0) := by rw [O3.cell]; rfl
  have f4 := O3.frozen 4
  have z1 := O3.lt
  have z0 := O1.lt
  clear hb2 P1 P2 P3 P4 HB1
  have HB1 := Lib.hid (hbx2.setCell (p := ⟨w.heap.size + 2, 4, none⟩) (by simp) (.slice (some ⟨g2, 0, none⟩) ms.length ms.length))
  have P1 := Lib.hid (O1.far (p := ⟨w.heap.size + 2, 4, none⟩) (by simp) (.slice (some ⟨g2, 0, none⟩) ms.length ms.length))
  have P2 := Lib.hid (O2.far (p := ⟨w.heap.size + 2, 4, none⟩) (by simp) (.slice (some ⟨g2, 0, none⟩) ms.length ms.length))
  have P3 := Lib.hid (O3.set_ 4 (.slice (some ⟨g2, 0, none⟩) ms.length ms.length))
  have P4 := Lib.hid (O4.far (p := ⟨w.heap.size + 2, 4, none⟩) (by simp; omega) (.slice (some ⟨g2, 0, none⟩) ms.length ms.length))
  have P5 := Lib.hid (hown2.far (p := ⟨w.heap.size + 2, 4, none⟩) (by simp; omega) (.slice (some ⟨g2, 0, none⟩) ms.length ms.length))
  clear hbx2 O1 O2 O3 O4 hown2
  go_wp2_with fail
  generalize w2.setCell ⟨w.heap.size + 2, 4, none⟩ (.slice (some ⟨g2, 0, none⟩) ms.length ms.length) = x2 at *
  clear a5 s4 f4 z1 z0
  refine (HI.out kids K kc B0 x2 (by omega) (HV.out.k.keep HB1.out) l4 HL5.out).mono ?_
  rintro e w3 ⟨K3, rfl, hK3, hb3⟩
  have hbx3 : Below w.heap.size w w3 := HB1.out.trans (hb3.mono HB1.out.size)
  have hgx : g1 < x2.heap.size := P4.out.lt
  have hgy : g2 < x2.heap.size := P5.out.lt
  have hV3 : ScV w3 (w.heap.size + 3) ns ms kids (some ⟨g1, 0, none⟩) (some ⟨g2, 0, none⟩) K3 :=
    ⟨(P4.out.keep hb3).row, (P5.out.keep hb3).row, hK3.low (by omega), (fun x e => by injection e with e; subst e; simp only; omega), fun x e => by injection e with e; subst e; simp only; omega⟩
  have O1 := P1.out.keep hb3
  have O2 := P2.out.keep hb3
  have O3 := P3.out.keep hb3
  clear hb3 P1 P2 P3 P4 P5 hK3 HB1
  have s0 : w3.cell? ⟨w.heap.size + 2, 0, none⟩ = some (.int .i64 k) := by rw [O3.cell]; rfl
  have s1 : w3.cell? ⟨w.heap.size + 2, 1, none⟩ = some (.int .i64 mn) := by rw [O3.cell]; rfl
  have s2 : w3.cell? ⟨w.heap.size + 2, 2, none⟩ = some (.int .i64 mx) := by rw [O3.cell]; rfl
  have s3 : w3.cell? ⟨w.heap.size + 2, 3, none⟩ = some (.slice (some ⟨g1, 0, none⟩) ns.length ns.length) := by rw [O3.cell]; rfl
  have s4 : w3.cell? ⟨w.heap.size + 2, 4, none⟩ = some (.slice (some ⟨g2, 0, none⟩) ms.length ms.length) := by rw [O3.cell]; rfl
  have s5 : w3.cell? ⟨w.heap.size + 2, 5, none⟩ = some (.slice none 0 0) := by rw [O3.cell]; rfl
  have f5 := O3.frozen 5
  have r0 : w3.cell? ⟨w.heap.size + 1, 0, none⟩ = some (.int .i64 0) := by rw [O2.cell]; rfl
  have r1 : w3.cell? ⟨w.heap.size + 1, 1, none⟩ = some (.int .i64 0) := by rw [O2.cell]; rfl
  have r2 : w3.cell? ⟨w.heap.size + 1, 2, none⟩ = some (.int .i64 0) := by rw [O2.cell]; rfl
  have r3 : w3.cell? ⟨w.heap.size + 1, 3, none⟩ = some (.slice none 0 0) := by rw [O2.cell]; rfl
  have r4 : w3.cell? ⟨w.heap.size + 1, 4, none⟩ = some (.slice none 0 0) := by rw [O2.cell]; rfl
  have r5 : w3.cell? ⟨w.heap.size + 1, 5, none⟩ = some (.slice none 0 0) := by rw [O2.cell]; rfl
  have q0 := O2.frozen 0
  have q1 := O2.frozen 1
  have q2 := O2.frozen 2
  have q3 := O2.frozen 3
  have q4 := O2.frozen 4
  have q5 := O2.frozen 5
  have z1 := O3.lt
  have z0 := O1.lt
  have z2 := O2.lt
  have HV3 := Lib.hid hV3
  have HB3 := Lib.hid hbx3
  clear O1 O2 O3 hV3 hbx3
  go_wp2
  refine bodyPost_ret (v := .agg #[.int .i64 k, .int .i64 mn, .int .i64 mx, .slice (some ⟨g1, 0, none⟩) ns.length ns.length, .slice (some ⟨g2, 0, none⟩) ms.length ms.length, .slice K3 kids.length kids.length]) (by simp [results, Tryz.results17, go_sem, r0, r1, r2, r3, r4, r5]) rfl ⟨_, _, K3, rfl, ?_, ?_⟩
  · exact (((((((HV3.out.mv (.set_ (by simp only; omega) _)).mv (.set_ (by simp only; omega) _)).mv (.set_ (by simp only; omega) _)).mv (.set_ (by simp only; omega) _)).mv (.set_ (by simp only; omega) _)).mv (.set_ (by simp only; omega) _)).mv (.set_ (by simp only; omega) _)).low (by omega)
  · exact ((((((HB3.out.setCell (by simp only; omega) _).setCell (by simp only; omega) _).setCell (by simp only; omega) _).setCell (by simp only; omega) _).setCell (by simp only; omega) _).setCell (by simp only; omega) _).setCell (by simp only; omega) _

/-- While schemas are copied. -/
structure TKS (w0 : World) (g : Nat) (ps : List Sc) (j : Nat) (cur : List Value) (w : World) : Prop where
  o : Own w g 31 cur
  l : cur.length = ps.length * 6
  b : Below w0.heap.size w0 w
  g0 : w0.heap.size ≤ g
  d : ∀ i (h : i < ps.length), i < j → ∀ k mn mx ns ms kids, ps[i] = .mk k mn mx ns ms kids → ∃ A M K ca ma kc, cur[i * 6]? = some (.int .i64 k) ∧ cur[i * 6 + 1]? = some (.int .i64 mn) ∧ cur[i * 6 + 2]? = some (.int .i64 mx) ∧ cur[i * 6 + 3]? = some (.slice A ns.length ca) ∧ cur[i * 6 + 4]? = some (.slice M ms.length ma) ∧ cur[i * 6 + 5]? = some (.slice K kids.length kc) ∧ ns.length ≤ ca ∧ ScV w (g + 1) ns ms kids A M K
theorem TKS.keep {w0 w w' : World} {g j : Nat} {ps : List Sc} {cur : List Value} (h : TKS w0 g ps j cur w) (hb : Below w.heap.size w w') : TKS w0 g ps j cur w' :=
  ⟨h.o.keep hb, h.l, h.b.trans (hb.mono h.b.size), h.g0, fun i hi hj k mn mx ns ms kids e => by
    obtain ⟨A, M, K, ca, ma, kc, c0, c1, c2, c3, c4, c5, le, hv⟩ := h.d i hi hj k mn mx ns ms kids e
    exact ⟨A, M, K, ca, ma, kc, c0, c1, c2, c3, c4, c5, le, hv.keep hb⟩⟩
theorem set6_far (cur : List Value) (j i : Nat) (v0 v1 v2 v3 v4 v5 : Value) (h : i < j * 6 ∨ j * 6 + 6 ≤ i) : ((((((cur.set (j * 6) v0).set (j * 6 + 1) v1).set (j * 6 + 2) v2).set (j * 6 + 3) v3).set (j * 6 + 4) v4).set (j * 6 + 5) v5)[i]? = cur[i]? := by
  rw [List.getElem?_set_ne (by omega), List.getElem?_set_ne (by omega), List.getElem?_set_ne (by omega), List.getElem?_set_ne (by omega), List.getElem?_set_ne (by omega), List.getElem?_set_ne (by omega)]
theorem TKS.put {w0 w : World} {g j : Nat} {ps : List Sc} {cur : List Value} (h : TKS w0 g ps j cur w) (hj : j < ps.length) {k mn mx : Int} {ns : List ByteArray} {ms : List Bool} {kids : List Sc} (e : ps[j] = .mk k mn mx ns ms kids) {A M K : Option Addr} {ca ma kc : Nat} (le : ns.length ≤ ca) (hv : ScV w (g + 1) ns ms kids A M K) :
    TKS w0 g ps (j + 1) ((((((cur.set (j * 6) (.int .i64 k)).set (j * 6 + 1) (.int .i64 mn)).set (j * 6 + 2) (.int .i64 mx)).set (j * 6 + 3) (.slice A ns.length ca)).set (j * 6 + 4) (.slice M ms.length ma)).set (j * 6 + 5) (.slice K kids.length kc))
      ((((((w.setCell ⟨g, j * 6, none⟩ (.int .i64 k)).setCell ⟨g, j * 6 + 1, none⟩ (.int .i64 mn)).setCell ⟨g, j * 6 + 2, none⟩ (.int .i64 mx)).setCell ⟨g, j * 6 + 3, none⟩ (.slice A ns.length ca)).setCell ⟨g, j * 6 + 4, none⟩ (.slice M ms.length ma)).setCell ⟨g, j * 6 + 5, none⟩ (.slice K kids.length kc)) := by
  have hl := h.l
  have mv : ∀ {ns : List ByteArray} {ms : List Bool} {kids : List Sc} {A M K : Option Addr} (v0 v1 v2 v3 v4 v5 : Value), ScV w (g + 1) ns ms kids A M K → ScV ((((((w.setCell ⟨g, j * 6, none⟩ v0).setCell ⟨g, j * 6 + 1, none⟩ v1).setCell ⟨g, j * 6 + 2, none⟩ v2).setCell ⟨g, j * 6 + 3, none⟩ v3).setCell ⟨g, j * 6 + 4, none⟩ v4).setCell ⟨g, j * 6 + 5, none⟩ v5) (g + 1) ns ms kids A M K := by
    intro ns ms kids A M K v0 v1 v2 v3 v4 v5 h
    exact (((((h.mv (.set_ (by simp) _)).mv (.set_ (by simp) _)).mv (.set_ (by simp) _)).mv (.set_ (by simp) _)).mv (.set_ (by simp) _)).mv (.set_ (by simp) _)
  refine ⟨(((((h.o.set_ _ _).set_ _ _).set_ _ _).set_ _ _).set_ _ _).set_ _ _, by simp [hl], (((((h.b.setCell h.g0 _).setCell h.g0 _).setCell h.g0 _).setCell h.g0 _).setCell h.g0 _).setCell h.g0 _, h.g0, fun i hi' hij k' mn' mx' ns' ms' kids' e' => ?_⟩
  by_cases h1 : i < j
  · obtain ⟨A', M', K', ca', ma', kc', c0, c1, c2, c3, c4, c5, le', hv'⟩ := h.d i hi' h1 k' mn' mx' ns' ms' kids' e'
    refine ⟨A', M', K', ca', ma', kc', ?_, ?_, ?_, ?_, ?_, ?_, le', mv _ _ _ _ _ _ hv'⟩
    · rw [set6_far _ _ _ _ _ _ _ _ _ (by omega)]; exact c0
    · rw [set6_far _ _ _ _ _ _ _ _ _ (by omega)]; exact c1
    · rw [set6_far _ _ _ _ _ _ _ _ _ (by omega)]; exact c2
    · rw [set6_far _ _ _ _ _ _ _ _ _ (by omega)]; exact c3
    · rw [set6_far _ _ _ _ _ _ _ _ _ (by omega)]; exact c4
    · rw [set6_far _ _ _ _ _ _ _ _ _ (by omega)]; exact c5
  · have hij' : i = j := by omega
    subst hij'
    rw [e] at e'
    injection e' with e1 e2 e3 e4 e5 e6
    subst e1 e2 e3 e4 e5 e6
    refine ⟨A, M, K, ca, ma, kc, ?_, ?_, ?_, ?_, ?_, ?_, le, mv _ _ _ _ _ _ hv⟩
    · rw [List.getElem?_set_ne (by omega), List.getElem?_set_ne (by omega), List.getElem?_set_ne (by omega), List.getElem?_set_ne (by omega), List.getElem?_set_ne (by omega), List.getElem?_set_self (by omega)]
    · rw [List.getElem?_set_ne (by omega), List.getElem?_set_ne (by omega), List.getElem?_set_ne (by omega), List.getElem?_set_ne (by omega), List.getElem?_set_self (by simp; omega)]
    · rw [List.getElem?_set_ne (by omega), List.getElem?_set_ne (by omega), List.getElem?_set_ne (by omega), List.getElem?_set_self (by simp; omega)]
    · rw [List.getElem?_set_ne (by omega), List.getElem?_set_ne (by omega), List.getElem?_set_self (by simp; omega)]
    · rw [List.getElem?_set_ne (by omega), List.getElem?_set_self (by simp; omega)]
    · rw [List.getElem?_set_self (by simp; omega)]
theorem TKS.done {w0 w : World} {g j : Nat} {ps : List Sc} {cur : List Value} (h : TKS w0 g ps j cur w) (hj : ps.length ≤ j) : Scs w w0.heap.size (some ⟨g, 0, none⟩) ps := by
  refine ⟨g, 0, fun _ => rfl, fun i hi => ?_⟩
  obtain ⟨k, mn, mx, ns, ms, kids, e⟩ : ∃ k mn mx ns ms kids, ps[i] = .mk k mn mx ns ms kids := by cases h : ps[i]; exact ⟨_, _, _, _, _, _, rfl⟩
  obtain ⟨A, M, K, ca, ma, kc, c0, c1, c2, c3, c4, c5, le, hv⟩ := h.d i hi (by omega) k mn mx ns ms kids e
  rw [e, Nat.zero_add]
  refine ScCells.mk_ (A := A) (M := M) (K := K) (ca := ca) (ma := ma) (kc := kc) ⟨?_, ?_, ?_, ?_, ?_, ?_, le⟩ (hv.low (by have := h.g0; omega)) h.g0
  · rw [h.o.cell]; exact c0
  · rw [h.o.cell]; exact c1
  · rw [h.o.cell]; exact c2
  · rw [h.o.cell]; exact c3
  · rw [h.o.cell]; exact c4
  · rw [h.o.cell]; exact c5

set_option maxRecDepth 100000 in
set_option maxHeartbeats 1000000 in
theorem tosKids {n : Nat} (IH : ToSP n) (kids : List Sc) (K : Option Addr) (kc B0 : Nat) (w : World) (hh : htS kids ≤ n) (hk : Scs w B0 K kids) (hm : kids.length ≤ 1048576) (hl : ∀ p ∈ kids, LimS 1048576 p) :
    Calls Tryz.prog 41 #[.slice K kids.length kc] w (NewScs kids w) := by
  obtain ⟨i0, hi0, hz0, hz1, hz2⟩ := info_parts infoSm
  have HI0 := Lib.hid (And.intro hi0 (And.intro hz0 (And.intro hz1 hz2)))
  clear hi0 hz0 hz1 hz2
  have HI := Lib.hid IH
  have HK := Lib.hid hk
  have HL := Lib.hid hl
  have HH := Lib.hid hh
  clear IH hk hl hh
  go_enter Tryz.func41, Tryz.ntmps41
  go_wp2_with (refine wpList_make_full _ rfl _ _ 29 rfl w.heap.size 31 i0 (.agg #[.int .i64 0, .int .i64 0, .int .i64 0, .slice none 0 0, .slice none 0 0, .slice none 0 0]) 6 Tryz.underlying29 HI0.out.1 HI0.out.2.1 HI0.out.2.2.1 .i64 .i64 kids.length kids.length kids.length rfl rfl rfl rfl (by rw [HI0.out.2.2.2]; omega) (by unfold maxLen; omega) (by omega) ?_)
  intro w1 hown1 hgr1
  have HT0 : Hid (TKS w w.heap.size kids 0 _ w1) := ⟨own_of_row hown1, by simp [size_madeCells], (Below.refl _ _).grown hgr1 (Nat.le_refl _) (fun k hk => by cases hk), Nat.le_refl _, fun i _ hi => by omega⟩
  clear hown1 hgr1
  go_wp2
  go_loopw [4] (fun i wr => ∃ j : Nat, j ≤ kids.length ∧ i = .int .i64 j ∧ ∃ cur, Hid (TKS w w.heap.size kids j cur wr)) (fun i _ => kids.length - (intOf i).toNat)
  case atStart => exact ⟨0, Nat.zero_le _, rfl, _, HT0⟩
  case round =>
    clear HT0
    obtain ⟨j, hj, rfl, cur, HT⟩ := hrel
    by_cases hlt : j < kids.length
    · have hlt' : (j : Int) < (kids.length : Int) := by omega
      obtain ⟨b, off, rfl, hp⟩ := (HK.out.keep HT.out.b).at_ hlt
      have hmem := List.getElem_mem hlt
      have hlim := HL.out _ hmem
      have hht := htS_mem hmem
      obtain ⟨pk, pmn, pmx, pns, pms, pkids, hpe⟩ : ∃ k mn mx ns ms ks, kids[j] = .mk k mn mx ns ms ks := by cases h : kids[j]; exact ⟨_, _, _, _, _, _, rfl⟩
      rw [hpe] at hp hlim hht
      rw [htS_mk] at hht
      obtain ⟨PA, PM, PK, pa, pm, pc, hc, hv⟩ := hp.open_
      obtain ⟨c0, c1, c2, c3, c4, c5, cle⟩ := hc
      have HC := Lib.hid (HI.out pk pmn pmx pns pms pkids PA PM PK pa pm pc B0 wr (by have := HH.out; omega) hv hlim)
      have HPE := Lib.hid hpe
      have hgw : w.heap.size < wr.heap.size := HT.out.o.lt
      clear hp hv hlim hht hmem hpe
      go_wp2_with fail
      refine HC.out.mono ?_
      rintro e w2 ⟨A2, M2, K2, rfl, hv2, hb2⟩
      have HT2 := HT.out.keep hb2
      have HP := Lib.hid (HT2.put hlt HPE.out (ca := pns.length) (ma := pms.length) (kc := pkids.length) (Nat.le_refl _) (hv2.low (by omega)))
      have hl := HT2.l
      have hg2 := HT2.o.lt
      obtain ⟨v0, hv0⟩ : ∃ v, w2.cell? ⟨w.heap.size, j * 6, none⟩ = some v := ⟨_, HT2.o.cell_ (by omega)⟩
      obtain ⟨v1, hv1⟩ : ∃ v, w2.cell? ⟨w.heap.size, j * 6 + 1, none⟩ = some v := ⟨_, HT2.o.cell_ (by omega)⟩
      obtain ⟨v2, hv2'⟩ : ∃ v, w2.cell? ⟨w.heap.size, j * 6 + 2, none⟩ = some v := ⟨_, HT2.o.cell_ (by omega)⟩
      obtain ⟨v3, hv3⟩ : ∃ v, w2.cell? ⟨w.heap.size, j * 6 + 3, none⟩ = some v := ⟨_, HT2.o.cell_ (by omega)⟩
      obtain ⟨v4, hv4⟩ : ∃ v, w2.cell? ⟨w.heap.size, j * 6 + 4, none⟩ = some v := ⟨_, HT2.o.cell_ (by omega)⟩
      obtain ⟨v5, hv5⟩ : ∃ v, w2.cell? ⟨w.heap.size, j * 6 + 5, none⟩ = some v := ⟨_, HT2.o.cell_ (by omega)⟩
      have f0 := HT2.o.frozen (j * 6)
      have f1 := HT2.o.frozen (j * 6 + 1)
      have f2 := HT2.o.frozen (j * 6 + 2)
      have f3 := HT2.o.frozen (j * 6 + 3)
      have f4 := HT2.o.frozen (j * 6 + 4)
      have f5 := HT2.o.frozen (j * 6 + 5)
      clear HT HT2 hb2 HC c0 c1 c2 c3 c4 c5 hv2
      go_wp2
      go_roundw
      case rel => exact ⟨j + 1, by omega, by go_num, _, HP⟩
      case measure => simp [intOf]; omega
    · have hlt' : ¬ (j : Int) < (kids.length : Int) := by omega
      go_wp2
      go_ret
      exact ⟨_, rfl, HT.out.done (by omega), HT.out.b⟩

theorem tos_all : ∀ n, ToSP n
  | 0 => by intro k mn mx ns ms kids A M K ca ma kc B0 w hh; omega
  | n + 1 => tosStep (fun kids K kc B0 w h1 h2 h3 h4 => tosKids (tos_all n) kids K kc B0 w h1 h2 h3 h4)

end Go.Proofs.YtkhcappjhefkjaaGreatDoor

