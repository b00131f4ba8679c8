/- Parts and rules copied. -/
import Derived.Test.YtjfohdalpjoaeaaDoorP2
namespace Go.Proofs.YtjfohdalpjoaeaaDoor
open Go.RowKit
set_option linter.unusedVariables false

theorem info3 : (Tryd.prog.info? 3).map (fun i => (i.zero, i.size, i.bytes)) = some (some (.int .i64 0), 1, 8) := by kernel_rfl
theorem info31 : (Tryd.prog.info? 31).map (fun i => (i.zero, i.size, i.bytes)) = some (some (.agg #[.int .i64 0, .string ByteArray.empty, .slice none 0 0, .slice none 0 0, .slice none 0 0, .int .i64 0, .int .i64 0]), 7, 112) := by kernel_rfl
theorem info33 : (Tryd.prog.info? 33).map (fun i => (i.zero, i.size, i.bytes)) = some (some (.agg #[.string ByteArray.empty, .int .i64 0, .string ByteArray.empty, .slice none 0 0, .slice none 0 0, .slice none 0 0, .int .i64 0, .int .i64 0]), 8, 128) := by kernel_rfl

/-- A new slice of ints. -/
def NewInts (ss : List Int) (w : World) (e : Ending) (w' : World) : Prop :=
  ∃ g, e = .returned (.slice (some ⟨g, 0, none⟩) ss.length ss.length) ∧ w.heap.size ≤ g ∧ Own w' g 3 (ints ss) ∧ Below w.heap.size w w'

theorem ints_snoc (ss : List Int) (k : Nat) (h : k < ss.length) : ints (ss.take (k + 1)) = ints (ss.take k) ++ [.int .i64 ss[k]] := by
  unfold ints; rw [List.take_succ_eq_append_getElem h, List.map_append]; rfl

set_option maxHeartbeats 400000 in
theorem toI_any (a : Option Addr) (c : Nat) (ss : List Int) (w : World) (hr : Row w a (ints ss)) (hm : ss.length ≤ 1048576) :
    Calls Tryd.prog 67 #[.slice a ss.length c] w (NewInts ss w) := by
  have HR := Lib.hid hr
  clear hr
  have hmk := run_make_row' (P := Tryd.prog) 28 3 (.int .i64 0) 8 Tryd.underlying28 info3 rfl .i64 .i64 ss.length (by omega) (by omega)
  go_enter Tryd.func67, Tryd.ntmps67
  go_wp2
  clear hmk
  go_loopw [4] (fun i wr => ∃ k : Nat, k ≤ ss.length ∧ i = .int .i64 k ∧ Own wr w.heap.size 3 (ints (ss.take k) ++ List.replicate (ss.length - k) (.int .i64 0)) ∧ Below w.heap.size w wr) (fun i _ => ss.length - (intOf i).toNat)
  case atStart => exact ⟨0, Nat.zero_le _, rfl, by simpa [ints] using Own.made w 3 (.int .i64 0) ss.length, below_box _⟩
  case round =>
    obtain ⟨k, hk, rfl, hown, hb⟩ := hrel
    by_cases hlt : k < ss.length
    · obtain ⟨b, off, rfl, hc⟩ := (HR.out.keep hb).int hlt
      have hl : (ints (ss.take k)).length = k := by simp; omega
      obtain ⟨v, hv⟩ : ∃ v, wr.cell? ⟨w.heap.size, k, none⟩ = some v := ⟨_, hown.cell_ (by simp; omega)⟩
      have hf := hown.frozen k
      have R : Own (wr.setCell ⟨w.heap.size, k, none⟩ (.int .i64 ss[k])) w.heap.size 3 (ints (ss.take (k + 1)) ++ List.replicate (ss.length - (k + 1)) (.int .i64 0)) := by
        have := hown.set_ k (.int .i64 ss[k])
        rwa [set_next hl hlt, ← ints_snoc ss k hlt] at this
      have HB : Below w.heap.size w (wr.setCell ⟨w.heap.size, k, none⟩ (.int .i64 ss[k])) := hb.setCell (Nat.le_refl _) _
      clear hown hb
      go_wp2
      go_roundw
      case rel => exact ⟨k + 1, by omega, by go_num, R, HB⟩
      case measure => simp [intOf]; omega
    · go_wp2
      go_ret
      have hkk : k = ss.length := by omega
      subst hkk
      exact ⟨_, rfl, Nat.le_refl _, by simpa using hown, hb⟩

/-- A copy of a part: all of it is new. -/
def NewPt (k : Int) (t : ByteArray) (lo hi : List Int) (kids : List Pt) (mn mx : Int) (w : World) (e : Ending) (w' : World) : Prop :=
  ∃ A B K, e = .returned (.agg #[.int .i64 k, .string t, .slice A lo.length lo.length, .slice B hi.length hi.length, .slice K kids.length kids.length, .int .i64 mn, .int .i64 mx]) ∧ PtV w' w.heap.size lo hi kids A B K ∧ Below w.heap.size w w'
/-- New parts. -/
def NewPts (kids : List Pt) (w : World) (e : Ending) (w' : World) : Prop :=
  ∃ K, e = .returned (.slice K kids.length kids.length) ∧ Pts w' w.heap.size K kids ∧ Below w.heap.size w w'

/-- Copying of parts that are at most so high. -/
def ToP (n : Nat) : Prop := ∀ (k : Int) (t : ByteArray) (lo hi : List Int) (kids : List Pt) (mn mx : Int) (A B K : Option Addr) (ca cb kc B0 : Nat) (w : World), htL kids + 1 ≤ n → PtV w B0 lo hi kids A B K → Lim 1048576 (.mk k t lo hi kids mn mx) →
  Calls Tryd.prog 58 #[.agg #[.int .i64 k, .string t, .slice A lo.length ca, .slice B hi.length cb, .slice K kids.length kc, .int .i64 mn, .int .i64 mx]] w (NewPt k t lo hi kids mn mx w)

set_option maxRecDepth 100000 in
set_option maxHeartbeats 1000000 in
theorem toStep {n : Nat} (IHK : ∀ (kids : List Pt) (K : Option Addr) (kc B0 : Nat) (w : World), htL kids ≤ n → Pts w B0 K kids → kids.length ≤ 1048576 → (∀ p ∈ kids, Lim 1048576 p) → Calls Tryd.prog 68 #[.slice K kids.length kc] w (NewPts kids w)) : ToP (n + 1) := by
  intro k t lo hi kids mn mx A B K ca cb kc B0 w hh hv hl
  have HI := Lib.hid IHK
  have HV := Lib.hid hv
  cases hl with
  | mk _ _ _ _ _ _ _ l1 l2 l3 l4 l5 =>
  have HL5 := Lib.hid l5
  clear IHK hv l5
  have O1 : Own (((w.alloc (.cells #[.int .i64 k, .string t, .slice A lo.length ca, .slice B hi.length cb, .slice K kids.length kc, .int .i64 mn, .int .i64 mx] 81)).alloc (.cells #[.int .i64 0, .string { data := #[] }, .slice none 0 0, .slice none 0 0, .slice none 0 0, .int .i64 0, .int .i64 0] 31)).alloc (.cells #[.int .i64 k, .string t, .slice none 0 0, .slice none 0 0, .slice none 0 0, .int .i64 0, .int .i64 0] 31)) w.heap.size 81 [.int .i64 k, .string t, .slice A lo.length ca, .slice B hi.length cb, .slice K kids.length kc, .int .i64 mn, .int .i64 mx] :=
    ((Own.new w 81 #[.int .i64 k, .string t, .slice A lo.length ca, .slice B hi.length cb, .slice K kids.length kc, .int .i64 mn, .int .i64 mx]).alloc _).alloc _
  have O2 : Own (((w.alloc (.cells #[.int .i64 k, .string t, .slice A lo.length ca, .slice B hi.length cb, .slice K kids.length kc, .int .i64 mn, .int .i64 mx] 81)).alloc (.cells #[.int .i64 0, .string { data := #[] }, .slice none 0 0, .slice none 0 0, .slice none 0 0, .int .i64 0, .int .i64 0] 31)).alloc (.cells #[.int .i64 k, .string t, .slice none 0 0, .slice none 0 0, .slice none 0 0, .int .i64 0, .int .i64 0] 31)) (w.heap.size + 1) 31 [.int .i64 0, .string { data := #[] }, .slice none 0 0, .slice none 0 0, .slice none 0 0, .int .i64 0, .int .i64 0] := by
    have h := (Own.new (w.alloc (.cells #[.int .i64 k, .string t, .slice A lo.length ca, .slice B hi.length cb, .slice K kids.length kc, .int .i64 mn, .int .i64 mx] 81)) 31 #[.int .i64 0, .string { data := #[] }, .slice none 0 0, .slice none 0 0, .slice none 0 0, .int .i64 0, .int .i64 0])
    rw [World.size_alloc] at h
    exact h.alloc _
  have O3 : Own (((w.alloc (.cells #[.int .i64 k, .string t, .slice A lo.length ca, .slice B hi.length cb, .slice K kids.length kc, .int .i64 mn, .int .i64 mx] 81)).alloc (.cells #[.int .i64 0, .string { data := #[] }, .slice none 0 0, .slice none 0 0, .slice none 0 0, .int .i64 0, .int .i64 0] 31)).alloc (.cells #[.int .i64 k, .string t, .slice none 0 0, .slice none 0 0, .slice none 0 0, .int .i64 0, .int .i64 0] 31)) (w.heap.size + 2) 31 [.int .i64 k, .string t, .slice none 0 0, .slice none 0 0, .slice none 0 0, .int .i64 0, .int .i64 0] := by
    have h := (Own.new ((w.alloc (.cells #[.int .i64 k, .string t, .slice A lo.length ca, .slice B hi.length cb, .slice K kids.length kc, .int .i64 mn, .int .i64 mx] 81)).alloc (.cells #[.int .i64 0, .string { data := #[] }, .slice none 0 0, .slice none 0 0, .slice none 0 0, .int .i64 0, .int .i64 0] 31)) 31 #[.int .i64 k, .string t, .slice none 0 0, .slice none 0 0, .slice none 0 0, .int .i64 0, .int .i64 0])
    rw [World.size_alloc, World.size_alloc] at h
    exact h
  have hbW : Below w.heap.size w (((w.alloc (.cells #[.int .i64 k, .string t, .slice A lo.length ca, .slice B hi.length cb, .slice K kids.length kc, .int .i64 mn, .int .i64 mx] 81)).alloc (.cells #[.int .i64 0, .string { data := #[] }, .slice none 0 0, .slice none 0 0, .slice none 0 0, .int .i64 0, .int .i64 0] 31)).alloc (.cells #[.int .i64 k, .string t, .slice none 0 0, .slice none 0 0, .slice none 0 0, .int .i64 0, .int .i64 0] 31)) := ((below_box _).alloc (by simp) _).alloc (by simp; omega) _
  go_enter Tryd.func58, Tryd.ntmps58
  go_wp2_with fail
  generalize (((w.alloc (.cells #[.int .i64 k, .string t, .slice A lo.length ca, .slice B hi.length cb, .slice K kids.length kc, .int .i64 mn, .int .i64 mx] 81)).alloc (.cells #[.int .i64 0, .string { data := #[] }, .slice none 0 0, .slice none 0 0, .slice none 0 0, .int .i64 0, .int .i64 0] 31)).alloc (.cells #[.int .i64 k, .string t, .slice none 0 0, .slice none 0 0, .slice none 0 0, .int .i64 0, .int .i64 0] 31)) = W0 at *
  have hW0 := O3.lt
  refine (toI_any A ca lo W0 (HV.out.a.keep hbW) l2).mono ?_
  rintro e w1 ⟨g1, rfl, hg1, hO1, hb1⟩
  have hbx1 : Below w.heap.size w w1 := hbW.trans (hb1.mono hbW.size)
  replace O1 := O1.keep hb1
  replace O2 := O2.keep hb1
  replace O3 := O3.keep hb1
  clear hb1 hbW
  have a3 : w1.cell? ⟨w.heap.size, 3, none⟩ = some (.slice B hi.length cb) := by rw [O1.cell]; rfl
  have s2 : w1.cell? ⟨w.heap.size + 2, 2, none⟩ = some (.slice none 0 0) := by rw [O3.cell]; rfl
  have f2 := O3.frozen 2
  have z1 := O3.lt
  have z0 := O1.lt
  have HB1 := Lib.hid (hbx1.setCell (p := ⟨w.heap.size + 2, 2, none⟩) (by simp) (.slice (some ⟨g1, 0, none⟩) lo.length lo.length))
  have P1 := Lib.hid (O1.far (p := ⟨w.heap.size + 2, 2, none⟩) (by simp) (.slice (some ⟨g1, 0, none⟩) lo.length lo.length))
  have P2 := Lib.hid (O2.far (p := ⟨w.heap.size + 2, 2, none⟩) (by simp) (.slice (some ⟨g1, 0, none⟩) lo.length lo.length))
  have P3 := Lib.hid (O3.set_ 2 (.slice (some ⟨g1, 0, none⟩) lo.length lo.length))
  have P4 := Lib.hid (hO1.far (p := ⟨w.heap.size + 2, 2, none⟩) (by simp; omega) (.slice (some ⟨g1, 0, none⟩) lo.length lo.length))
  clear hbx1 O1 O2 O3 hO1
  go_wp2_with fail
  generalize w1.setCell ⟨w.heap.size + 2, 2, none⟩ (.slice (some ⟨g1, 0, none⟩) lo.length lo.length) = x1 at *
  clear a3 s2 f2 z1 z0
  refine (toI_any B cb hi x1 (HV.out.b.keep HB1.out) l3).mono ?_
  rintro e w2 ⟨g2, rfl, hg2, hO2, hb2⟩
  have hbx2 : Below w.heap.size w w2 := HB1.out.trans (hb2.mono HB1.out.size)
  have hgg : g1 < x1.heap.size := P4.out.lt
  have O1 := P1.out.keep hb2
  have O2 := P2.out.keep hb2
  have O3 := P3.out.keep hb2
  have O4 := P4.out.keep hb2
  have O5 := hO2
  clear hb2 P1 P2 P3 P4 hO2
  have a4 : w2.cell? ⟨w.heap.size, 4, none⟩ = some (.slice K kids.length kc) := by rw [O1.cell]; rfl
  have s2 : w2.cell? ⟨w.heap.size + 2, 3, none⟩ = some (.slice none 0 0) := by rw [O3.cell]; rfl
  have f2 := O3.frozen 3
  have z1 := O3.lt
  have z0 := O1.lt
  have HB2 := Lib.hid (hbx2.setCell (p := ⟨w.heap.size + 2, 3, none⟩) (by simp) (.slice (some ⟨g2, 0, none⟩) hi.length hi.length))
  have P1 := Lib.hid (O1.far (p := ⟨w.heap.size + 2, 3, none⟩) (by simp) (.slice (some ⟨g2, 0, none⟩) hi.length hi.length))
  have P2 := Lib.hid (O2.far (p := ⟨w.heap.size + 2, 3, none⟩) (by simp) (.slice (some ⟨g2, 0, none⟩) hi.length hi.length))
  have P3 := Lib.hid (O3.set_ 3 (.slice (some ⟨g2, 0, none⟩) hi.length hi.length))
  have P4 := Lib.hid (O4.far (p := ⟨w.heap.size + 2, 3, none⟩) (by simp; omega) (.slice (some ⟨g2, 0, none⟩) hi.length hi.length))
  have P5 := Lib.hid (O5.far (p := ⟨w.heap.size + 2, 3, none⟩) (by simp; omega) (.slice (some ⟨g2, 0, none⟩) hi.length hi.length))
  clear hbx2 O1 O2 O3 O4 O5 HB1
  go_wp2_with fail
  generalize w2.setCell ⟨w.heap.size + 2, 3, none⟩ (.slice (some ⟨g2, 0, none⟩) hi.length hi.length) = x2 at *
  clear a4 s2 f2 z1 z0
  refine (HI.out kids K kc B0 x2 (by omega) (HV.out.k.keep HB2.out) l4 HL5.out).mono ?_
  rintro e w3 ⟨K3, rfl, hK3, hb3⟩
  have hbx3 : Below w.heap.size w w3 := HB2.out.trans (hb3.mono HB2.out.size)
  have hg2x : g2 < x2.heap.size := P5.out.lt
  have hV3 : PtV w3 (w.heap.size + 3) lo hi kids (some ⟨g1, 0, none⟩) (some ⟨g2, 0, none⟩) K3 :=
    ⟨(P4.out.keep hb3).row, (P5.out.keep hb3).row, hK3.low (by omega), fun x e => by injection e with e; subst e; simp only; omega, fun x e => by injection e with e; subst e; simp only; omega⟩
  have O1 := P1.out.keep hb3
  have O2 := P2.out.keep hb3
  have O3 := P3.out.keep hb3
  clear hb3 P1 P2 P3 P4 P5 hK3 HB2
  have a5 : w3.cell? ⟨w.heap.size, 5, none⟩ = some (.int .i64 mn) := by rw [O1.cell]; rfl
  have a6 : w3.cell? ⟨w.heap.size, 6, none⟩ = some (.int .i64 mx) := by rw [O1.cell]; rfl
  have s0 : w3.cell? ⟨w.heap.size + 2, 0, none⟩ = some (.int .i64 k) := by rw [O3.cell]; rfl
  have s1 : w3.cell? ⟨w.heap.size + 2, 1, none⟩ = some (.string t) := by rw [O3.cell]; rfl
  have s2 : w3.cell? ⟨w.heap.size + 2, 2, none⟩ = some (.slice (some ⟨g1, 0, none⟩) lo.length lo.length) := by rw [O3.cell]; rfl
  have s3 : w3.cell? ⟨w.heap.size + 2, 3, none⟩ = some (.slice (some ⟨g2, 0, none⟩) hi.length hi.length) := by rw [O3.cell]; rfl
  have s4 : w3.cell? ⟨w.heap.size + 2, 4, none⟩ = some (.slice none 0 0) := by rw [O3.cell]; rfl
  have s5 : w3.cell? ⟨w.heap.size + 2, 5, none⟩ = some (.int .i64 0) := by rw [O3.cell]; rfl
  have s6 : w3.cell? ⟨w.heap.size + 2, 6, none⟩ = some (.int .i64 0) := by rw [O3.cell]; rfl
  have f4 := O3.frozen 4
  have f5 := O3.frozen 5
  have f6 := O3.frozen 6
  have r0 : w3.cell? ⟨w.heap.size + 1, 0, none⟩ = some (.int .i64 0) := by rw [O2.cell]; rfl
  have r1 : w3.cell? ⟨w.heap.size + 1, 1, none⟩ = some (.string { data := #[] }) := by rw [O2.cell]; rfl
  have r2 : w3.cell? ⟨w.heap.size + 1, 2, none⟩ = some (.slice none 0 0) := by rw [O2.cell]; rfl
  have r3 : w3.cell? ⟨w.heap.size + 1, 3, none⟩ = some (.slice none 0 0) := by rw [O2.cell]; rfl
  have r4 : w3.cell? ⟨w.heap.size + 1, 4, none⟩ = some (.slice none 0 0) := by rw [O2.cell]; rfl
  have r5 : w3.cell? ⟨w.heap.size + 1, 5, none⟩ = some (.int .i64 0) := by rw [O2.cell]; rfl
  have r6 : w3.cell? ⟨w.heap.size + 1, 6, none⟩ = some (.int .i64 0) := by rw [O2.cell]; rfl
  have q0 := O2.frozen 0
  have q1 := O2.frozen 1
  have q2 := O2.frozen 2
  have q3 := O2.frozen 3
  have q4 := O2.frozen 4
  have q5 := O2.frozen 5
  have q6 := O2.frozen 6
  have z1 := O3.lt
  have z0 := O1.lt
  have z2 := O2.lt
  have HV3 := Lib.hid hV3
  have HB3 := Lib.hid hbx3
  clear O1 O2 O3 hV3 hbx3
  go_wp2
  refine bodyPost_ret (v := .agg #[.int .i64 k, .string t, .slice (some ⟨g1, 0, none⟩) lo.length lo.length, .slice (some ⟨g2, 0, none⟩) hi.length hi.length, .slice K3 kids.length kids.length, .int .i64 mn, .int .i64 mx]) (by simp [results, Tryd.results58, go_sem, r0, r1, r2, r3, r4, r5, r6]) rfl ⟨_, _, K3, rfl, ?_, ?_⟩
  · exact (((((((((((HV3.out.mv (.set_ (by simp only; omega) _)).mv (.set_ (by simp only; omega) _)).mv (.set_ (by simp only; omega) _)).mv (.set_ (by simp only; omega) _)).mv (.set_ (by simp only; omega) _)).mv (.set_ (by simp only; omega) _)).mv (.set_ (by simp only; omega) _)).mv (.set_ (by simp only; omega) _)).mv (.set_ (by simp only; omega) _)).mv (.set_ (by simp only; omega) _))).low (by omega)
  · exact ((((((((((HB3.out.setCell (by simp only; omega) _).setCell (by simp only; omega) _).setCell (by simp only; omega) _).setCell (by simp only; omega) _).setCell (by simp only; omega) _).setCell (by simp only; omega) _).setCell (by simp only; omega) _).setCell (by simp only; omega) _).setCell (by simp only; omega) _).setCell (by simp only; omega) _)

/-- While parts are copied. -/
structure TK (w0 : World) (g : Nat) (ps : List Pt) (j : Nat) (cur : List Value) (w : World) : Prop where
  o : Own w g 31 cur
  l : cur.length = ps.length * 7
  b : Below w0.heap.size w0 w
  g0 : w0.heap.size ≤ g
  d : ∀ i (h : i < ps.length), i < j → ∀ k t lo hi kids mn mx, ps[i] = .mk k t lo hi kids mn mx → ∃ A B K ca cb kc, cur[i * 7]? = some (.int .i64 k) ∧ cur[i * 7 + 1]? = some (.string t) ∧ cur[i * 7 + 2]? = some (.slice A lo.length ca) ∧ cur[i * 7 + 3]? = some (.slice B hi.length cb) ∧ cur[i * 7 + 4]? = some (.slice K kids.length kc) ∧ cur[i * 7 + 5]? = some (.int .i64 mn) ∧ cur[i * 7 + 6]? = some (.int .i64 mx) ∧ PtV w (g + 1) lo hi kids A B K

theorem TK.keep {w0 w w' : World} {g j : Nat} {ps : List Pt} {cur : List Value} (h : TK w0 g ps j cur w) (hb : Below w.heap.size w w') : TK w0 g ps j cur w' :=
  ⟨h.o.keep hb, h.l, h.b.trans (hb.mono h.b.size), h.g0, fun i hi hj k t lo hi' kids mn mx e => by
    obtain ⟨A, B, K, ca, cb, kc, c0, c1, c2, c3, c4, c5, c6, hv⟩ := h.d i hi hj k t lo hi' kids mn mx e
    exact ⟨A, B, K, ca, cb, kc, c0, c1, c2, c3, c4, c5, c6, hv.keep hb⟩⟩

theorem set7_far (cur : List Value) (j i : Nat) (v0 v1 v2 v3 v4 v5 v6 : Value) (h : i < j * 7 ∨ j * 7 + 7 ≤ i) : (((((((cur.set (j * 7) v0).set (j * 7 + 1) v1).set (j * 7 + 2) v2).set (j * 7 + 3) v3).set (j * 7 + 4) v4).set (j * 7 + 5) v5).set (j * 7 + 6) v6)[i]? = cur[i]? := by
  rw [List.getElem?_set_ne (by omega), List.getElem?_set_ne (by omega), List.getElem?_set_ne (by omega), List.getElem?_set_ne (by omega), List.getElem?_set_ne (by omega), List.getElem?_set_ne (by omega), List.getElem?_set_ne (by omega)]

theorem TK.put {w0 w : World} {g j : Nat} {ps : List Pt} {cur : List Value} (h : TK w0 g ps j cur w) (hj : j < ps.length) {k : Int} {t : ByteArray} {lo hi : List Int} {kids : List Pt} {mn mx : Int} (e : ps[j] = .mk k t lo hi kids mn mx) {A B K : Option Addr} {ca cb kc : Nat} (hv : PtV w (g + 1) lo hi kids A B K) :
    TK w0 g ps (j + 1) (((((((cur.set (j * 7) (.int .i64 k)).set (j * 7 + 1) (.string t)).set (j * 7 + 2) (.slice A lo.length ca)).set (j * 7 + 3) (.slice B hi.length cb)).set (j * 7 + 4) (.slice K kids.length kc)).set (j * 7 + 5) (.int .i64 mn)).set (j * 7 + 6) (.int .i64 mx))
      (((((((w.setCell ⟨g, j * 7, none⟩ (.int .i64 k)).setCell ⟨g, j * 7 + 1, none⟩ (.string t)).setCell ⟨g, j * 7 + 2, none⟩ (.slice A lo.length ca)).setCell ⟨g, j * 7 + 3, none⟩ (.slice B hi.length cb)).setCell ⟨g, j * 7 + 4, none⟩ (.slice K kids.length kc)).setCell ⟨g, j * 7 + 5, none⟩ (.int .i64 mn)).setCell ⟨g, j * 7 + 6, none⟩ (.int .i64 mx)) := by
  have hl := h.l
  have mv : ∀ {lo hi : List Int} {kids : List Pt} {A B K : Option Addr} (v0 v1 v2 v3 v4 v5 v6 : Value), PtV w (g + 1) lo hi kids A B K → PtV (((((((w.setCell ⟨g, j * 7, none⟩ v0).setCell ⟨g, j * 7 + 1, none⟩ v1).setCell ⟨g, j * 7 + 2, none⟩ v2).setCell ⟨g, j * 7 + 3, none⟩ v3).setCell ⟨g, j * 7 + 4, none⟩ v4).setCell ⟨g, j * 7 + 5, none⟩ v5).setCell ⟨g, j * 7 + 6, none⟩ v6) (g + 1) lo hi kids A B K := by
    intro lo hi kids A B K v0 v1 v2 v3 v4 v5 v6 h
    exact ((((((h.mv (.set_ (by simp) _)).mv (.set_ (by simp) _)).mv (.set_ (by simp) _)).mv (.set_ (by simp) _)).mv (.set_ (by simp) _)).mv (.set_ (by simp) _)).mv (.set_ (by simp) _)
  refine ⟨((((((h.o.set_ _ _).set_ _ _).set_ _ _).set_ _ _).set_ _ _).set_ _ _).set_ _ _, by simp [hl], ((((((h.b.setCell h.g0 _).setCell h.g0 _).setCell h.g0 _).setCell h.g0 _).setCell h.g0 _).setCell h.g0 _).setCell h.g0 _, h.g0, fun i hi' hij k' t' lo' hi'' kids' mn' mx' e' => ?_⟩
  by_cases h1 : i < j
  · obtain ⟨A', B', K', ca', cb', kc', c0, c1, c2, c3, c4, c5, c6, hv'⟩ := h.d i hi' h1 k' t' lo' hi'' kids' mn' mx' e'
    refine ⟨A', B', K', ca', cb', kc', ?_, ?_, ?_, ?_, ?_, ?_, ?_, mv _ _ _ _ _ _ _ hv'⟩
    · rw [set7_far _ _ _ _ _ _ _ _ _ _ (by omega)]; exact c0
    · rw [set7_far _ _ _ _ _ _ _ _ _ _ (by omega)]; exact c1
    · rw [set7_far _ _ _ _ _ _ _ _ _ _ (by omega)]; exact c2
    · rw [set7_far _ _ _ _ _ _ _ _ _ _ (by omega)]; exact c3
    · rw [set7_far _ _ _ _ _ _ _ _ _ _ (by omega)]; exact c4
    · rw [set7_far _ _ _ _ _ _ _ _ _ _ (by omega)]; exact c5
    · rw [set7_far _ _ _ _ _ _ _ _ _ _ (by omega)]; exact c6
  · have hij' : i = j := by omega
    subst hij'
    rw [e] at e'
    injection e' with e1 e2 e3 e4 e5 e6 e7
    subst e1 e2 e3 e4 e5 e6 e7
    refine ⟨A, B, K, ca, cb, kc, ?_, ?_, ?_, ?_, ?_, ?_, ?_, mv _ _ _ _ _ _ _ hv⟩
    · rw [List.getElem?_set_ne (by omega), List.getElem?_set_ne (by omega), List.getElem?_set_ne (by omega), List.getElem?_set_ne (by omega), List.getElem?_set_ne (by omega), List.getElem?_set_ne (by omega), List.getElem?_set_self (by omega)]
    · rw [List.getElem?_set_ne (by omega), List.getElem?_set_ne (by omega), List.getElem?_set_ne (by omega), List.getElem?_set_ne (by omega), List.getElem?_set_ne (by omega), List.getElem?_set_self (by simp; omega)]
    · rw [List.getElem?_set_ne (by omega), List.getElem?_set_ne (by omega), List.getElem?_set_ne (by omega), List.getElem?_set_ne (by omega), List.getElem?_set_self (by simp; omega)]
    · rw [List.getElem?_set_ne (by omega), List.getElem?_set_ne (by omega), List.getElem?_set_ne (by omega), List.getElem?_set_self (by simp; omega)]
    · rw [List.getElem?_set_ne (by omega), List.getElem?_set_ne (by omega), List.getElem?_set_self (by simp; omega)]
    · rw [List.getElem?_set_ne (by omega), List.getElem?_set_self (by simp; omega)]
    · rw [List.getElem?_set_self (by simp; omega)]

theorem TK.done {w0 w : World} {g j : Nat} {ps : List Pt} {cur : List Value} (h : TK w0 g ps j cur w) (hj : ps.length ≤ j) : Pts w w0.heap.size (some ⟨g, 0, none⟩) ps := by
  refine ⟨g, 0, fun _ => rfl, fun i hi => ?_⟩
  obtain ⟨k, t, lo, hi', kids, mn, mx, e⟩ : ∃ k t lo hi kids mn mx, ps[i] = .mk k t lo hi kids mn mx := by cases h : ps[i]; exact ⟨_, _, _, _, _, _, _, rfl⟩
  obtain ⟨A, B, K, ca, cb, kc, c0, c1, c2, c3, c4, c5, c6, hv⟩ := h.d i hi (by omega) k t lo hi' kids mn mx e
  rw [e, Nat.zero_add]
  refine PtCells.mk_ (A := A) (B := B) (K := K) (ca := ca) (cb := cb) (kc := kc) ⟨?_, ?_, ?_, ?_, ?_, ?_, ?_⟩ (hv.low (by have := h.g0; omega)) h.g0
  · rw [h.o.cell]; exact c0
  · rw [h.o.cell]; exact c1
  · rw [h.o.cell]; exact c2
  · rw [h.o.cell]; exact c3
  · rw [h.o.cell]; exact c4
  · rw [h.o.cell]; exact c5
  · rw [h.o.cell]; exact c6

end Go.Proofs.YtjfohdalpjoaeaaDoor
