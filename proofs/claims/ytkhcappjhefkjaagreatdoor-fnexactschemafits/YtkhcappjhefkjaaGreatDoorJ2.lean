/- Values copied: toStringS, toJson, toJsonS. -/
import Derived.Test.YtkhcappjhefkjaaGreatDoorQ2
namespace Go.Proofs.YtkhcappjhefkjaaGreatDoor
open Go.RowKit
set_option linter.unusedVariables false

theorem infoS : (Tryz.prog.info? 9).map (fun i => (i.zero, i.size, i.bytes)) = some (some (.string ByteArray.empty), 1, 16) := by kernel_rfl
theorem infoJ : (Tryz.prog.info? 42).map (fun i => (i.zero, i.size, i.bytes)) = some (some (.agg #[.int .i64 0, .bool false, .string ByteArray.empty, .slice none 0 0, .slice none 0 0]), 5, 80) := by kernel_rfl

/-- A new slice of strings. -/
def NewStrs (ss : List ByteArray) (w : World) (e : Ending) (w' : World) : Prop :=
  ∃ g, e = .returned (.slice (some ⟨g, 0, none⟩) ss.length ss.length) ∧ w.heap.size ≤ g ∧ Own w' g 9 (strs ss) ∧ Below w.heap.size w w'
theorem strs_snoc (ss : List ByteArray) (k : Nat) (h : k < ss.length) : strs (ss.take (k + 1)) = strs (ss.take k) ++ [.string ss[k]] := by
  unfold strs; rw [List.take_succ_eq_append_getElem h, List.map_append]; rfl

set_option maxHeartbeats 400000 in
theorem toS_any (a : Option Addr) (c : Nat) (ss : List ByteArray) (w : World) (hr : Row w a (strs ss)) (hm : ss.length ≤ 1048576) :
    Calls Tryz.prog 39 #[.slice a ss.length c] w (NewStrs ss w) := by
  have HR := Lib.hid hr
  clear hr
  have hmk := run_make_row' (P := Tryz.prog) 22 9 (.string ByteArray.empty) 16 Tryz.underlying22 infoS rfl .i64 .i64 ss.length (by omega) (by omega)
  go_enter Tryz.func39, Tryz.ntmps39
  go_wp2
  clear hmk
  go_loopw [4] (fun i wr => ∃ k : Nat, k ≤ ss.length ∧ i = .int .i64 k ∧ Own wr w.heap.size 9 (strs (ss.take k) ++ List.replicate (ss.length - k) (.string ByteArray.empty)) ∧ Below w.heap.size w wr) (fun i _ => ss.length - (intOf i).toNat)
  case atStart => exact ⟨0, Nat.zero_le _, rfl, by simpa [strs] using Own.made w 9 (.string ByteArray.empty) ss.length, below_box _⟩
  case round =>
    obtain ⟨k, hk, rfl, hown, hb⟩ := hrel
    by_cases hlt : k < ss.length
    · obtain ⟨b, off, rfl, hc⟩ := (HR.out.keep hb).str hlt
      have hl : (strs (ss.take k)).length = k := by simp; omega
      obtain ⟨v, hv⟩ : ∃ v, wr.cell? ⟨w.heap.size, k, none⟩ = some v := ⟨_, hown.cell_ (by simp; omega)⟩
      have hf := hown.frozen k
      have R : Own (wr.setCell ⟨w.heap.size, k, none⟩ (.string ss[k])) w.heap.size 9 (strs (ss.take (k + 1)) ++ List.replicate (ss.length - (k + 1)) (.string ByteArray.empty)) := by
        have := hown.set_ k (.string ss[k])
        rwa [set_next hl hlt, ← strs_snoc ss k hlt] at this
      have HB : Below w.heap.size w (wr.setCell ⟨w.heap.size, k, none⟩ (.string ss[k])) := hb.setCell (Nat.le_refl _) _
      clear hown hb
      go_wp2
      go_roundw
      case rel => exact ⟨k + 1, by omega, by go_num, R, HB⟩
      case measure => simp [intOf]; omega
    · go_wp2
      go_ret
      have hkk : k = ss.length := by omega
      subst hkk
      exact ⟨_, rfl, Nat.le_refl _, by simpa using hown, hb⟩

/-- A copy of a value: all of it is new. -/
def NewJs (k : Int) (f : Bool) (t : ByteArray) (ns : List ByteArray) (kids : List Js) (w : World) (e : Ending) (w' : World) : Prop :=
  ∃ A K, e = .returned (.agg #[.int .i64 k, .bool f, .string t, .slice A ns.length ns.length, .slice K kids.length kids.length]) ∧ JsV w' w.heap.size ns kids A K ∧ Below w.heap.size w w'
def NewJss (kids : List Js) (w : World) (e : Ending) (w' : World) : Prop :=
  ∃ K, e = .returned (.slice K kids.length kids.length) ∧ Jss w' w.heap.size K kids ∧ Below w.heap.size w w'

/-- Copying of values that are at most so high. -/
def ToP (n : Nat) : Prop := ∀ (k : Int) (f : Bool) (t : ByteArray) (ns : List ByteArray) (kids : List Js) (A K : Option Addr) (ca kc B0 : Nat) (w : World), htJ kids + 1 ≤ n → JsV w B0 ns kids A K → LimJ 1048576 (.mk k f t ns kids) →
  Calls Tryz.prog 22 #[.agg #[.int .i64 k, .bool f, .string t, .slice A ns.length ca, .slice K kids.length kc]] w (NewJs k f t ns kids w)

set_option maxRecDepth 100000 in
set_option maxHeartbeats 1000000 in
theorem toStep {n : Nat} (IHK : ∀ (kids : List Js) (K : Option Addr) (kc B0 : Nat) (w : World), htJ kids ≤ n → Jss w B0 K kids → kids.length ≤ 1048576 → (∀ p ∈ kids, LimJ 1048576 p) → Calls Tryz.prog 48 #[.slice K kids.length kc] w (NewJss kids w)) : ToP (n + 1) := by
  intro k f t ns kids A K ca kc B0 w hh hv hl
  have HI := Lib.hid IHK
  have HV := Lib.hid hv
  cases hl with
  | mk _ _ _ _ _ l1 l2 l3 l4 l5 =>
  have HL5 := Lib.hid l5
  clear IHK hv l5 l3
  obtain ⟨W0, hW0⟩ : ∃ W0, ((w.alloc (.cells #[.int .i64 k, .bool f, .string t, .slice A ns.length ca, .slice K kids.length kc] 37)).alloc (.cells #[.int .i64 0, .bool false, .string { data := #[] }, .slice none 0 0, .slice none 0 0] 42)).alloc (.cells #[.int .i64 k, .bool f, .string t, .slice none 0 0, .slice none 0 0] 42) = W0 := ⟨_, rfl⟩
  have O1 : Own W0 w.heap.size 37 [.int .i64 k, .bool f, .string t, .slice A ns.length ca, .slice K kids.length kc] := by
    rw [← hW0]; exact ((Own.new w 37 #[.int .i64 k, .bool f, .string t, .slice A ns.length ca, .slice K kids.length kc]).alloc _).alloc _
  have O2 : Own W0 (w.heap.size + 1) 42 [.int .i64 0, .bool false, .string { data := #[] }, .slice none 0 0, .slice none 0 0] := by
    have h := (Own.new (w.alloc (.cells #[.int .i64 k, .bool f, .string t, .slice A ns.length ca, .slice K kids.length kc] 37)) 42 #[.int .i64 0, .bool false, .string { data := #[] }, .slice none 0 0, .slice none 0 0])
    rw [World.size_alloc] at h
    rw [← hW0]; exact h.alloc _
  have O3 : Own W0 (w.heap.size + 2) 42 [.int .i64 k, .bool f, .string t, .slice none 0 0, .slice none 0 0] := by
    have h := (Own.new ((w.alloc (.cells #[.int .i64 k, .bool f, .string t, .slice A ns.length ca, .slice K kids.length kc] 37)).alloc (.cells #[.int .i64 0, .bool false, .string { data := #[] }, .slice none 0 0, .slice none 0 0] 42)) 42 #[.int .i64 k, .bool f, .string t, .slice none 0 0, .slice none 0 0])
    rw [World.size_alloc, World.size_alloc] at h
    rw [← hW0]; exact h
  have hbW : Below w.heap.size w W0 := by rw [← hW0]; exact ((below_box _).alloc (by simp) _).alloc (by simp; omega) _
  have HW := Lib.hid hW0
  clear hW0
  go_enter Tryz.func22, Tryz.ntmps22
  go_wp2_with fail
  rw [HW.out]
  have sz0 := O3.lt
  refine (toS_any A ca ns W0 (HV.out.a.keep hbW) l2).mono ?_
  rintro e w1 ⟨g1, rfl, hg1, hown1, hb1⟩
  have hbx1 : Below w.heap.size w w1 := hbW.trans (hb1.mono hbW.size)
  replace O1 := O1.keep hb1
  replace O2 := O2.keep hb1
  replace O3 := O3.keep hb1
  have hg1' : w.heap.size + 2 < g1 := by omega
  clear hb1 hbW HW
  have a4 : w1.cell? ⟨w.heap.size, 4, none⟩ = some (.slice K kids.length kc) := by rw [O1.cell]; rfl
  have s3 : w1.cell? ⟨w.heap.size + 2, 3, none⟩ = some (.slice none 0 0) := by rw [O3.cell]; rfl
  have f3 := O3.frozen 3
  have z1 := O3.lt
  have z0 := O1.lt
  have HB1 := Lib.hid (hbx1.setCell (p := ⟨w.heap.size + 2, 3, none⟩) (by simp) (.slice (some ⟨g1, 0, none⟩) ns.length ns.length))
  have P1 := Lib.hid (O1.far (p := ⟨w.heap.size + 2, 3, none⟩) (by simp) (.slice (some ⟨g1, 0, none⟩) ns.length ns.length))
  have P2 := Lib.hid (O2.far (p := ⟨w.heap.size + 2, 3, none⟩) (by simp) (.slice (some ⟨g1, 0, none⟩) ns.length ns.length))
  have P3 := Lib.hid (O3.set_ 3 (.slice (some ⟨g1, 0, none⟩) ns.length ns.length))
  have P4 := Lib.hid (hown1.far (p := ⟨w.heap.size + 2, 3, none⟩) (by simp; omega) (.slice (some ⟨g1, 0, none⟩) ns.length ns.length))
  clear hbx1 O1 O2 O3 hown1 sz0
  go_wp2_with fail
  generalize w1.setCell ⟨w.heap.size + 2, 3, none⟩ (.slice (some ⟨g1, 0, none⟩) ns.length ns.length) = x1 at *
  clear a4 s3 f3 z1 z0
  refine (HI.out kids K kc B0 x1 (by omega) (HV.out.k.keep HB1.out) l4 HL5.out).mono ?_
  rintro e w3 ⟨K3, rfl, hK3, hb3⟩
  have hbx3 : Below w.heap.size w w3 := HB1.out.trans (hb3.mono HB1.out.size)
  have hgx : g1 < x1.heap.size := P4.out.lt
  have hV3 : JsV w3 (w.heap.size + 3) ns kids (some ⟨g1, 0, none⟩) K3 :=
    ⟨(P4.out.keep hb3).row, hK3.low (by omega), fun x e => by injection e with e; subst e; simp only; omega⟩
  have O1 := P1.out.keep hb3
  have O2 := P2.out.keep hb3
  have O3 := P3.out.keep hb3
  clear hb3 P1 P2 P3 P4 hK3 HB1
  have s0 : w3.cell? ⟨w.heap.size + 2, 0, none⟩ = some (.int .i64 k) := by rw [O3.cell]; rfl
  have s1 : w3.cell? ⟨w.heap.size + 2, 1, none⟩ = some (.bool f) := by rw [O3.cell]; rfl
  have s2 : w3.cell? ⟨w.heap.size + 2, 2, none⟩ = some (.string t) := by rw [O3.cell]; rfl
  have s3 : w3.cell? ⟨w.heap.size + 2, 3, none⟩ = some (.slice (some ⟨g1, 0, none⟩) ns.length ns.length) := by rw [O3.cell]; rfl
  have s4 : w3.cell? ⟨w.heap.size + 2, 4, none⟩ = some (.slice none 0 0) := by rw [O3.cell]; rfl
  have f4 := O3.frozen 4
  have r0 : w3.cell? ⟨w.heap.size + 1, 0, none⟩ = some (.int .i64 0) := by rw [O2.cell]; rfl
  have r1 : w3.cell? ⟨w.heap.size + 1, 1, none⟩ = some (.bool false) := by rw [O2.cell]; rfl
  have r2 : w3.cell? ⟨w.heap.size + 1, 2, none⟩ = some (.string { data := #[] }) := by rw [O2.cell]; rfl
  have r3 : w3.cell? ⟨w.heap.size + 1, 3, none⟩ = some (.slice none 0 0) := by rw [O2.cell]; rfl
  have r4 : w3.cell? ⟨w.heap.size + 1, 4, none⟩ = some (.slice none 0 0) := by rw [O2.cell]; rfl
  have q0 := O2.frozen 0
  have q1 := O2.frozen 1
  have q2 := O2.frozen 2
  have q3 := O2.frozen 3
  have q4 := O2.frozen 4
  have z1 := O3.lt
  have z0 := O1.lt
  have z2 := O2.lt
  have HV3 := Lib.hid hV3
  have HB3 := Lib.hid hbx3
  clear O1 O2 O3 hV3 hbx3
  go_wp2
  refine bodyPost_ret (v := .agg #[.int .i64 k, .bool f, .string t, .slice (some ⟨g1, 0, none⟩) ns.length ns.length, .slice K3 kids.length kids.length]) (by simp [results, Tryz.results22, go_sem, r0, r1, r2, r3, r4]) rfl ⟨_, K3, rfl, ?_, ?_⟩
  · exact ((((((HV3.out.mv (.set_ (by simp only; omega) _)).mv (.set_ (by simp only; omega) _)).mv (.set_ (by simp only; omega) _)).mv (.set_ (by simp only; omega) _)).mv (.set_ (by simp only; omega) _)).mv (.set_ (by simp only; omega) _)).low (by omega)
  · exact (((((HB3.out.setCell (by simp only; omega) _).setCell (by simp only; omega) _).setCell (by simp only; omega) _).setCell (by simp only; omega) _).setCell (by simp only; omega) _).setCell (by simp only; omega) _

/-- While values are copied. -/
structure TK (w0 : World) (g : Nat) (ps : List Js) (j : Nat) (cur : List Value) (w : World) : Prop where
  o : Own w g 42 cur
  l : cur.length = ps.length * 5
  b : Below w0.heap.size w0 w
  g0 : w0.heap.size ≤ g
  d : ∀ i (h : i < ps.length), i < j → ∀ k f t ns kids, ps[i] = .mk k f t ns kids → ∃ A K ca kc, cur[i * 5]? = some (.int .i64 k) ∧ cur[i * 5 + 1]? = some (.bool f) ∧ cur[i * 5 + 2]? = some (.string t) ∧ cur[i * 5 + 3]? = some (.slice A ns.length ca) ∧ cur[i * 5 + 4]? = some (.slice K kids.length kc) ∧ ns.length ≤ ca ∧ JsV w (g + 1) ns kids A K
theorem TK.keep {w0 w w' : World} {g j : Nat} {ps : List Js} {cur : List Value} (h : TK w0 g ps j cur w) (hb : Below w.heap.size w w') : TK w0 g ps j cur w' :=
  ⟨h.o.keep hb, h.l, h.b.trans (hb.mono h.b.size), h.g0, fun i hi hj k f t ns kids e => by
    obtain ⟨A, K, ca, kc, c0, c1, c2, c3, c4, le, hv⟩ := h.d i hi hj k f t ns kids e
    exact ⟨A, K, ca, kc, c0, c1, c2, c3, c4, le, hv.keep hb⟩⟩
theorem set5_far (cur : List Value) (j i : Nat) (v0 v1 v2 v3 v4 : Value) (h : i < j * 5 ∨ j * 5 + 5 ≤ i) : (((((cur.set (j * 5) v0).set (j * 5 + 1) v1).set (j * 5 + 2) v2).set (j * 5 + 3) v3).set (j * 5 + 4) v4)[i]? = cur[i]? := by
  rw [List.getElem?_set_ne (by omega), List.getElem?_set_ne (by omega), List.getElem?_set_ne (by omega), List.getElem?_set_ne (by omega), List.getElem?_set_ne (by omega)]
theorem TK.put {w0 w : World} {g j : Nat} {ps : List Js} {cur : List Value} (h : TK w0 g ps j cur w) (hj : j < ps.length) {k : Int} {f : Bool} {t : ByteArray} {ns : List ByteArray} {kids : List Js} (e : ps[j] = .mk k f t ns kids) {A K : Option Addr} {ca kc : Nat} (le : ns.length ≤ ca) (hv : JsV w (g + 1) ns kids A K) :
    TK w0 g ps (j + 1) (((((cur.set (j * 5) (.int .i64 k)).set (j * 5 + 1) (.bool f)).set (j * 5 + 2) (.string t)).set (j * 5 + 3) (.slice A ns.length ca)).set (j * 5 + 4) (.slice K kids.length kc))
      (((((w.setCell ⟨g, j * 5, none⟩ (.int .i64 k)).setCell ⟨g, j * 5 + 1, none⟩ (.bool f)).setCell ⟨g, j * 5 + 2, none⟩ (.string t)).setCell ⟨g, j * 5 + 3, none⟩ (.slice A ns.length ca)).setCell ⟨g, j * 5 + 4, none⟩ (.slice K kids.length kc)) := by
  have hl := h.l
  have mv : ∀ {ns : List ByteArray} {kids : List Js} {A K : Option Addr} (v0 v1 v2 v3 v4 : Value), JsV w (g + 1) ns kids A K → JsV (((((w.setCell ⟨g, j * 5, none⟩ v0).setCell ⟨g, j * 5 + 1, none⟩ v1).setCell ⟨g, j * 5 + 2, none⟩ v2).setCell ⟨g, j * 5 + 3, none⟩ v3).setCell ⟨g, j * 5 + 4, none⟩ v4) (g + 1) ns kids A K := by
    intro ns kids A K v0 v1 v2 v3 v4 h
    exact ((((h.mv (.set_ (by simp) _)).mv (.set_ (by simp) _)).mv (.set_ (by simp) _)).mv (.set_ (by simp) _)).mv (.set_ (by simp) _)
  refine ⟨((((h.o.set_ _ _).set_ _ _).set_ _ _).set_ _ _).set_ _ _, by simp [hl], ((((h.b.setCell h.g0 _).setCell h.g0 _).setCell h.g0 _).setCell h.g0 _).setCell h.g0 _, h.g0, fun i hi' hij k' f' t' ns' kids' e' => ?_⟩
  by_cases h1 : i < j
  · obtain ⟨A', K', ca', kc', c0, c1, c2, c3, c4, le', hv'⟩ := h.d i hi' h1 k' f' t' ns' kids' e'
    refine ⟨A', K', ca', kc', ?_, ?_, ?_, ?_, ?_, le', mv _ _ _ _ _ hv'⟩
    · rw [set5_far _ _ _ _ _ _ _ _ (by omega)]; exact c0
    · rw [set5_far _ _ _ _ _ _ _ _ (by omega)]; exact c1
    · rw [set5_far _ _ _ _ _ _ _ _ (by omega)]; exact c2
    · rw [set5_far _ _ _ _ _ _ _ _ (by omega)]; exact c3
    · rw [set5_far _ _ _ _ _ _ _ _ (by omega)]; exact c4
  · have hij' : i = j := by omega
    subst hij'
    rw [e] at e'
    injection e' with e1 e2 e3 e4 e5
    subst e1 e2 e3 e4 e5
    refine ⟨A, K, ca, kc, ?_, ?_, ?_, ?_, ?_, le, mv _ _ _ _ _ hv⟩
    · rw [List.getElem?_set_ne (by omega), List.getElem?_set_ne (by omega), List.getElem?_set_ne (by omega), List.getElem?_set_ne (by omega), List.getElem?_set_self (by omega)]
    · rw [List.getElem?_set_ne (by omega), List.getElem?_set_ne (by omega), List.getElem?_set_ne (by omega), List.getElem?_set_self (by simp; omega)]
    · rw [List.getElem?_set_ne (by omega), List.getElem?_set_ne (by omega), List.getElem?_set_self (by simp; omega)]
    · rw [List.getElem?_set_ne (by omega), List.getElem?_set_self (by simp; omega)]
    · rw [List.getElem?_set_self (by simp; omega)]
theorem TK.done {w0 w : World} {g j : Nat} {ps : List Js} {cur : List Value} (h : TK w0 g ps j cur w) (hj : ps.length ≤ j) : Jss w w0.heap.size (some ⟨g, 0, none⟩) ps := by
  refine ⟨g, 0, fun _ => rfl, fun i hi => ?_⟩
  obtain ⟨k, f, t, ns, kids, e⟩ : ∃ k f t ns kids, ps[i] = .mk k f t ns kids := by cases h : ps[i]; exact ⟨_, _, _, _, _, rfl⟩
  obtain ⟨A, K, ca, kc, c0, c1, c2, c3, c4, le, hv⟩ := h.d i hi (by omega) k f t ns kids e
  rw [e, Nat.zero_add]
  refine JsCells.mk_ (A := A) (K := K) (ca := ca) (kc := kc) ⟨?_, ?_, ?_, ?_, ?_, le⟩ (hv.low (by have := h.g0; omega)) h.g0
  · rw [h.o.cell]; exact c0
  · rw [h.o.cell]; exact c1
  · rw [h.o.cell]; exact c2
  · rw [h.o.cell]; exact c3
  · rw [h.o.cell]; exact c4
theorem own_of_row {w : World} {base : Nat} {e : TypeId} {g n size : Nat} {xs : List Value} (h : w.ownsRow base e size (.slice (some ⟨g, 0, none⟩) n n) n xs) : Own w g e xs := by
  rcases h.2 with ⟨h1, _⟩ | ⟨g', cap, cur, h1, _, h2, _, _, h3, h4⟩
  · cases h1
  · injection h1 with e1 e2 e3
    injection e1 with e1
    injection e1 with e4
    subst e3 e4
    rw [List.take_of_length_le (by simp [h3])] at h4
    unfold Own
    rw [h2, ← h4]

set_option maxRecDepth 100000 in
set_option maxHeartbeats 1000000 in
theorem toKids {n : Nat} (IH : ToP n) (kids : List Js) (K : Option Addr) (kc B0 : Nat) (w : World) (hh : htJ kids ≤ n) (hk : Jss w B0 K kids) (hm : kids.length ≤ 1048576) (hl : ∀ p ∈ kids, LimJ 1048576 p) :
    Calls Tryz.prog 48 #[.slice K kids.length kc] w (NewJss kids w) := by
  obtain ⟨i0, hi0, hz0, hz1, hz2⟩ := info_parts infoJ
  have HI0 := Lib.hid (And.intro hi0 (And.intro hz0 (And.intro hz1 hz2)))
  clear hi0 hz0 hz1 hz2
  have HI := Lib.hid IH
  have HK := Lib.hid hk
  have HL := Lib.hid hl
  have HH := Lib.hid hh
  clear IH hk hl hh
  go_enter Tryz.func48, Tryz.ntmps48
  go_wp2_with (refine wpList_make_full _ rfl _ _ 40 rfl w.heap.size 42 i0 (.agg #[.int .i64 0, .bool false, .string ByteArray.empty, .slice none 0 0, .slice none 0 0]) 5 Tryz.underlying40 HI0.out.1 HI0.out.2.1 HI0.out.2.2.1 .i64 .i64 kids.length kids.length kids.length rfl rfl rfl rfl (by rw [HI0.out.2.2.2]; omega) (by unfold maxLen; omega) (by omega) ?_)
  intro w1 hown1 hgr1
  have HT0 : Hid (TK w w.heap.size kids 0 _ w1) := ⟨own_of_row hown1, by simp [size_madeCells], (Below.refl _ _).grown hgr1 (Nat.le_refl _) (fun k hk => by cases hk), Nat.le_refl _, fun i _ hi => by omega⟩
  clear hown1 hgr1
  go_wp2
  go_loopw [4] (fun i wr => ∃ j : Nat, j ≤ kids.length ∧ i = .int .i64 j ∧ ∃ cur, Hid (TK w w.heap.size kids j cur wr)) (fun i _ => kids.length - (intOf i).toNat)
  case atStart => exact ⟨0, Nat.zero_le _, rfl, _, HT0⟩
  case round =>
    clear HT0
    obtain ⟨j, hj, rfl, cur, HT⟩ := hrel
    by_cases hlt : j < kids.length
    · have hlt' : (j : Int) < (kids.length : Int) := by omega
      obtain ⟨b, off, rfl, hp⟩ := (HK.out.keep HT.out.b).at_ hlt
      have hmem := List.getElem_mem hlt
      have hlim := HL.out _ hmem
      have hht := htJ_mem hmem
      obtain ⟨pk, pf, pt, pns, pkids, hpe⟩ : ∃ k f t ns ks, kids[j] = .mk k f t ns ks := by cases h : kids[j]; exact ⟨_, _, _, _, _, rfl⟩
      rw [hpe] at hp hlim hht
      rw [htJ_mk] at hht
      obtain ⟨PA, PK, pa, pc, hc, hv⟩ := hp.open_
      obtain ⟨c0, c1, c2, c3, c4⟩ := hc
      have HC := Lib.hid (HI.out pk pf pt pns pkids PA PK pa pc B0 wr (by have := HH.out; omega) hv hlim)
      have HPE := Lib.hid hpe
      have hgw : w.heap.size < wr.heap.size := HT.out.o.lt
      clear hp hv hlim hht hmem hpe
      go_wp2_with fail
      refine HC.out.mono ?_
      rintro e w2 ⟨A2, K2, rfl, hv2, hb2⟩
      have HT2 := HT.out.keep hb2
      have HP := Lib.hid (HT2.put hlt HPE.out (ca := pns.length) (kc := pkids.length) (Nat.le_refl _) (hv2.low (by omega)))
      have hl := HT2.l
      have hg2 := HT2.o.lt
      obtain ⟨v0, hv0⟩ : ∃ v, w2.cell? ⟨w.heap.size, j * 5, none⟩ = some v := ⟨_, HT2.o.cell_ (by omega)⟩
      obtain ⟨v1, hv1⟩ : ∃ v, w2.cell? ⟨w.heap.size, j * 5 + 1, none⟩ = some v := ⟨_, HT2.o.cell_ (by omega)⟩
      obtain ⟨v2, hv2'⟩ : ∃ v, w2.cell? ⟨w.heap.size, j * 5 + 2, none⟩ = some v := ⟨_, HT2.o.cell_ (by omega)⟩
      obtain ⟨v3, hv3⟩ : ∃ v, w2.cell? ⟨w.heap.size, j * 5 + 3, none⟩ = some v := ⟨_, HT2.o.cell_ (by omega)⟩
      obtain ⟨v4, hv4⟩ : ∃ v, w2.cell? ⟨w.heap.size, j * 5 + 4, none⟩ = some v := ⟨_, HT2.o.cell_ (by omega)⟩
      have f0 := HT2.o.frozen (j * 5)
      have f1 := HT2.o.frozen (j * 5 + 1)
      have f2 := HT2.o.frozen (j * 5 + 2)
      have f3 := HT2.o.frozen (j * 5 + 3)
      have f4 := HT2.o.frozen (j * 5 + 4)
      clear HT HT2 hb2 HC c0 c1 c2 c3 c4 hv2
      go_wp2
      go_roundw
      case rel => exact ⟨j + 1, by omega, by go_num, _, HP⟩
      case measure => simp [intOf]; omega
    · have hlt' : ¬ (j : Int) < (kids.length : Int) := by omega
      go_wp2
      go_ret
      exact ⟨_, rfl, HT.out.done (by omega), HT.out.b⟩

theorem to_all : ∀ n, ToP n
  | 0 => by intro k f t ns kids A K ca kc B0 w hh; omega
  | n + 1 => toStep (fun kids K kc B0 w h1 h2 h3 h4 => toKids (to_all n) kids K kc B0 w h1 h2 h3 h4)

end Go.Proofs.YtkhcappjhefkjaaGreatDoor

