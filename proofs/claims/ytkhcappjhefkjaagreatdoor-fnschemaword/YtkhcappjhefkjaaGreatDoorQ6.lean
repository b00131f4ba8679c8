/- impl.yieldValue: lists, forms, all (written by tools/json/gen_j18.py). -/
import Derived.Test.YtkhcappjhefkjaaGreatDoorJ17
import Derived.Test.YtkhcappjhefkjaaGreatDoorW3
import Derived.Shelf.Strings.BuilderK
import Derived.Test.YtkhcappjhefkjaaGreatDoorJ7
namespace Go.Proofs.YtkhcappjhefkjaaGreatDoor
open Go.RowKit Go.Shelf
set_option linter.unusedVariables false
attribute [local go_sem] Oper.semAt_some

set_option maxRecDepth 100000 in
set_option maxHeartbeats 4000000 in
theorem yield5 {l N bb n : Nat} {w0 : World} {J Jx : List Sub → World → Prop} (hY : YS l N bb w0 J Jx) (IH : YvP l N bb w0 J Jx n) (m : Nat) (f : Bool) (t : ByteArray) (ns : List ByteArray) (kids : List Js) (A K : Option Addr) (ca kc B0 : Nat) (pre : List Sub) (W : World)
    (hh : htJ kids ≤ n) (hv : JsV w0 B0 ns kids A K) (ho : JokP (.mk 5 f t ns kids)) (hl : LimJ 1048576 (.mk 5 f t ns kids)) (hb : Below w0.heap.size w0 W) (hJ : J pre W) (hN : pre.length + (parts (.mk 5 f t ns kids)).length ≤ N) :
    CallsIn Fence.wide m Tryz.prog 124 #[.agg #[.int .i64 5, .bool f, .string t, .slice A ns.length ca, .slice K kids.length kc], .func (.yield l) #[] #[]] W (YPost w0 J Jx pre ((parts (.mk 5 f t ns kids)).map cl)) := by
  have hone := ho.one
  cases hl with
  | mk _ _ _ _ _ l1 l2 l3 l4 hl5 =>
  have hns0 : ns = [] := List.eq_nil_of_length_eq_zero (by rcases hone with h | h | h | h | h | h <;> omega)
  subst hns0
  have hpe : parts (.mk 5 f t [] kids) = (⟨#[91]⟩ : ByteArray) :: ((kidsP false [] 0 (kids.map parts)) ++ [(⟨#[93]⟩ : ByteArray)]) := by rw [parts_mk]; simp
  rw [hpe] at hN ⊢
  obtain ⟨Z, hZ⟩ : ∃ Z, Z = (kidsP false [] 0 (kids.map parts)) := ⟨_, rfl⟩
  have HLN : Hid (pre.length + (Z.length + 2) ≤ N) := by rw [← hZ] at hN; simp only [List.length_cons, List.length_append, List.length_nil] at hN; show _ ≤ _; omega
  have HLN2 : Hid ((pre ++ [cl (⟨#[91]⟩ : ByteArray)]).length + (kidsP false [] 0 (kids.map parts)).length ≤ N) := by rw [← hZ]; simp only [List.length_cons, List.length_append, List.length_nil]; show _ ≤ _; have := HLN.out; omega
  have HBX := Lib.hid (below_box (w := W) (.cells #[.int .i64 5, .bool f, .string t, .slice A (List.length ([] : List ByteArray)) ca, .slice K kids.length kc] 42))
  have HC : Hid (∀ w, Calls Tryz.prog 119 #[.agg #[.int .i64 5, .bool f, .string t, .slice A (List.length ([] : List ByteArray)) ca, .slice K kids.length kc]] w fun e w' => e = .returned (.iface 149 (.slice K kids.length kc)) ∧ Below w.heap.size w w') := fun w =>
    (valueOf_any 5 f t [] kids A K ca kc w l2 l4).mono fun e w' ⟨x, h1, h2, h3⟩ => by
      refine ⟨?_, h3⟩
      rcases h2 with ⟨_, rfl⟩ | ⟨h, _⟩
      · rw [h1]; unfold valJ; simp
      · exact absurd ⟨by unfold KindP; omega, (one_iff.1 hone).1⟩ h

  have HKC : Hid (∀ W3, (J (pre ++ [cl (⟨#[91]⟩ : ByteArray)]) W3 ∧ Below w0.heap.size w0 W3) → CallsIn Fence.wide (m - 1) Tryz.prog 148 #[.slice none 0 0, .slice K kids.length kc, .func (.yield l) #[] #[]] W3 (YPost w0 J Jx (pre ++ [cl (⟨#[91]⟩ : ByteArray)]) ((kidsP false [] 0 (kids.map parts)).map cl))) := fun W3 h => by
    have HW3 := Lib.hid h
    exact yieldKidsL hY IH kids K kc B0 (m - 1) (pre ++ [cl (⟨#[91]⟩ : ByteArray)]) W3 hh hv.k l4 ho.kids hl5 HW3.out.2 HW3.out.1 HLN2.out
  rw [← hZ]
  rw [← hZ] at HKC
  have x1 := as97_93
  have x2 := as97_94
  have x3 := as97_95
  have x4 := as97_96
  have x5 := as97
  clear hone hpe hN hZ IH ho hl5 HLN2
  have wfn : ∀ k, Fence.wide.fn k := fun _ => trivial
  have wdp : Fence.wide.depth.isSome = false := rfl
  refine callsIn_of_wp Tryz.func124 rfl trivial ?_ rfl
  simp only [Tryz.ntmps124, List.size_toArray, List.length_cons, List.length_nil, Nat.reduceAdd, Nat.reduceSub, Array.replicate_succ, Array.replicate_zero, List.push_toArray, List.append_toArray, List.nil_append, List.cons_append]
  gi_wp2_with (gi_at_call 119; refine (callsIn_wide.2 (HC.out _)).mono ?_; rintro e w2 ⟨rfl, hb2⟩)
  obtain ⟨fn, tmps, assign, body, hy, hR⟩ := hY.y (m - 1) pre (cl (⟨#[91]⟩ : ByteArray)) w2 (hY.j _ _ _ hJ (HBX.out.trans (hb2.mono HBX.out.size))) (by have := HLN.out; omega)
  rw [cl_val (by decide)] at hy
  have HB2 := Lib.hid (hb.trans ((HBX.out.trans (hb2.mono HBX.out.size)).mono hb.size))
  skip
  skip
  clear hb2 hJ
  rw [hy, Oper.uponIn_round]
  refine ⟨fun h => by simp [wdp] at h, ?_⟩
  refine hR.mono ?_
  clear hR hy
  rintro e W3 (⟨rfl, hJ3, hb3, hk3⟩ | ⟨rfl, hJ3⟩)
  rotate_left
  · gi_wp2
    all_goals (try (refine ⟨fun _ h => (by cases h), ?_⟩; gi_wp2))
    all_goals go_ret
    all_goals exact .inr ⟨rfl, [cl (⟨#[91]⟩ : ByteArray)], ⟨(Z ++ [(⟨#[93]⟩ : ByteArray)]).map cl, by simp⟩, hJ3⟩
  have HW3 : Hid (J (pre ++ [cl (⟨#[91]⟩ : ByteArray)]) W3 ∧ Below w0.heap.size w0 W3) := ⟨hJ3, HB2.out.trans hb3⟩

  clear hJ3 hb3 hk3
  gi_wp2_with (gi_at_call 148; refine (HKC.out W3 HW3.out).mono ?_; rintro e W4 (⟨rfl, hJ4, hb4⟩ | ⟨rfl, q, hq, hJ4⟩))
  rotate_left
  · have HF : Hid (YPost w0 J Jx pre (((⟨#[91]⟩ : ByteArray) :: (Z ++ [(⟨#[93]⟩ : ByteArray)])).map cl) (.returned (.bool false)) W4) := by
      obtain ⟨r, hr⟩ := hq
      refine .inr ⟨rfl, cl (⟨#[91]⟩ : ByteArray) :: q, ⟨r ++ [cl (⟨#[93]⟩ : ByteArray)], ?_⟩, by simpa only [List.append_assoc, List.cons_append, List.nil_append] using hJ4⟩
      simp only [List.map_cons, List.map_append, List.map_nil, ← hr, List.cons_append, List.append_assoc]
    clear hJ4 hq
    (try refine ⟨fun _ h => (by cases h), ?_⟩)
    gi_wp2
    all_goals (try (refine ⟨fun _ h => (by cases h), ?_⟩; gi_wp2))
    all_goals go_ret
    all_goals exact HF.out
  obtain ⟨fn5, tm5, as5, bo5, hy5, hR5⟩ := hY.y (m - 1) ((pre ++ [cl (⟨#[91]⟩ : ByteArray)]) ++ Z.map cl) (cl (⟨#[93]⟩ : ByteArray)) W4 hJ4 (by simp only [List.length_append, List.length_map, List.length_cons, List.length_nil]; have := HLN.out; omega)
  rw [cl_val (by decide)] at hy5
  rw [hy5, Oper.uponIn_round]
  refine ⟨fun h => by simp [wdp] at h, ?_⟩
  refine hR5.mono ?_
  clear hR5 hy5
  rintro e W5 (⟨rfl, hJ5, hb5, _⟩ | ⟨rfl, hJ5⟩)
  · have HF : Hid (YPost w0 J Jx pre (((⟨#[91]⟩ : ByteArray) :: (Z ++ [(⟨#[93]⟩ : ByteArray)])).map cl) (.returned (.bool true)) W5) := .inl ⟨rfl, by simpa only [List.map_cons, List.map_append, List.map_nil, List.append_assoc, List.cons_append, List.nil_append] using hJ5, hb4.trans hb5⟩
    clear hJ5 hb5 hJ4 hb4
    gi_wp2
    go_ret
    exact HF.out
  · have HF : Hid (YPost w0 J Jx pre (((⟨#[91]⟩ : ByteArray) :: (Z ++ [(⟨#[93]⟩ : ByteArray)])).map cl) (.returned (.bool false)) W5) := .inr ⟨rfl, _, List.prefix_refl _, by simpa only [List.map_cons, List.map_append, List.map_nil, List.append_assoc, List.cons_append, List.nil_append] using hJ5⟩
    clear hJ5 hJ4 hb4
    gi_wp2
    go_ret
    exact HF.out

set_option maxRecDepth 100000 in
set_option maxHeartbeats 4000000 in
theorem yield6 {l N bb n : Nat} {w0 : World} {J Jx : List Sub → World → Prop} (hY : YS l N bb w0 J Jx) (IH : YvP l N bb w0 J Jx n) (m : Nat) (f : Bool) (t : ByteArray) (ns : List ByteArray) (kids : List Js) (A K : Option Addr) (ca kc B0 : Nat) (pre : List Sub) (W : World)
    (hh : htJ kids ≤ n) (hv : JsV w0 B0 ns kids A K) (ho : JokP (.mk 6 f t ns kids)) (hl : LimJ 1048576 (.mk 6 f t ns kids)) (hb : Below w0.heap.size w0 W) (hJ : J pre W) (hN : pre.length + (parts (.mk 6 f t ns kids)).length ≤ N) :
    CallsIn Fence.wide m Tryz.prog 124 #[.agg #[.int .i64 6, .bool f, .string t, .slice A ns.length ca, .slice K kids.length kc], .func (.yield l) #[] #[]] W (YPost w0 J Jx pre ((parts (.mk 6 f t ns kids)).map cl)) := by
  have hone := ho.one
  cases hl with
  | mk _ _ _ _ _ l1 l2 l3 l4 hl5 =>
  have hpe : parts (.mk 6 f t ns kids) = (⟨#[123]⟩ : ByteArray) :: ((kidsP true ns 0 (kids.map parts)) ++ [(⟨#[125]⟩ : ByteArray)]) := by rw [parts_mk]; simp
  rw [hpe] at hN ⊢
  obtain ⟨Z, hZ⟩ : ∃ Z, Z = (kidsP true ns 0 (kids.map parts)) := ⟨_, rfl⟩
  have HLN : Hid (pre.length + (Z.length + 2) ≤ N) := by rw [← hZ] at hN; simp only [List.length_cons, List.length_append, List.length_nil] at hN; show _ ≤ _; omega
  have HLN2 : Hid ((pre ++ [cl (⟨#[123]⟩ : ByteArray)]).length + (kidsP true ns 0 (kids.map parts)).length ≤ N) := by rw [← hZ]; simp only [List.length_cons, List.length_append, List.length_nil]; show _ ≤ _; have := HLN.out; omega
  have HBX := Lib.hid (below_box (w := W) (.cells #[.int .i64 6, .bool f, .string t, .slice A ns.length ca, .slice K kids.length kc] 42))
  have HC : Hid (∀ w, Calls Tryz.prog 119 #[.agg #[.int .i64 6, .bool f, .string t, .slice A ns.length ca, .slice K kids.length kc]] w fun e w' => e = .returned (.iface 151 (.agg #[.slice A ns.length ca, .slice K kids.length kc])) ∧ Below w.heap.size w w') := fun w =>
    (valueOf_any 6 f t ns kids A K ca kc w l2 l4).mono fun e w' ⟨x, h1, h2, h3⟩ => by
      refine ⟨?_, h3⟩
      rcases h2 with ⟨_, rfl⟩ | ⟨h, _⟩
      · rw [h1]; unfold valJ; simp
      · exact absurd ⟨by unfold KindP; omega, (one_iff.1 hone).1⟩ h
  have HNL : Hid (kids.length ≤ ns.length) := by rcases hone with h | h | h | h | h | h <;> first | omega | (show _ ≤ _; omega)
  have HKC : Hid (∀ W3, (J (pre ++ [cl (⟨#[123]⟩ : ByteArray)]) W3 ∧ Below w0.heap.size w0 W3) → CallsIn Fence.wide (m - 1) Tryz.prog 148 #[.slice A ns.length ca, .slice K kids.length kc, .func (.yield l) #[] #[]] W3 (YPost w0 J Jx (pre ++ [cl (⟨#[123]⟩ : ByteArray)]) ((kidsP true ns 0 (kids.map parts)).map cl))) := fun W3 h => by
    have HW3 := Lib.hid h
    exact yieldKidsF hY IH ns A ca kids K kc B0 (m - 1) (pre ++ [cl (⟨#[123]⟩ : ByteArray)]) W3 hv.a HNL.out l2 (one_names hone) hh hv.k l4 ho.kids hl5 HW3.out.2 HW3.out.1 HLN2.out
  rw [← hZ]
  rw [← hZ] at HKC
  have x1 := as99_93
  have x2 := as99_94
  have x3 := as99_95
  have x4 := as99_96
  have x5 := as99_97
  have x6 := as99
  clear hone hpe hN hZ IH ho hl5 HLN2
  have wfn : ∀ k, Fence.wide.fn k := fun _ => trivial
  have wdp : Fence.wide.depth.isSome = false := rfl
  refine callsIn_of_wp Tryz.func124 rfl trivial ?_ rfl
  simp only [Tryz.ntmps124, List.size_toArray, List.length_cons, List.length_nil, Nat.reduceAdd, Nat.reduceSub, Array.replicate_succ, Array.replicate_zero, List.push_toArray, List.append_toArray, List.nil_append, List.cons_append]
  gi_wp2_with (gi_at_call 119; refine (callsIn_wide.2 (HC.out _)).mono ?_; rintro e w2 ⟨rfl, hb2⟩)
  obtain ⟨fn, tmps, assign, body, hy, hR⟩ := hY.y (m - 1) pre (cl (⟨#[123]⟩ : ByteArray)) (w2.alloc (.cells #[.slice A ns.length ca, .slice K kids.length kc] 151)) (hY.j _ _ _ hJ ((HBX.out.trans (hb2.mono HBX.out.size)).trans ((below_box (w := w2) (.cells #[.slice A ns.length ca, .slice K kids.length kc] 151)).mono (Nat.le_trans HBX.out.size hb2.size)))) (by have := HLN.out; omega)
  rw [cl_val (by decide)] at hy
  have HB2 := Lib.hid (hb.trans (((HBX.out.trans (hb2.mono HBX.out.size)).trans ((below_box (w := w2) (.cells #[.slice A ns.length ca, .slice K kids.length kc] 151)).mono (Nat.le_trans HBX.out.size hb2.size))).mono hb.size))
  have HOB := Lib.hid (Own.new w2 151 #[.slice A ns.length ca, .slice K kids.length kc])
  have HBB : Hid (bb < w2.heap.size) := hY.jb _ _ (hY.j _ _ _ hJ (HBX.out.trans (hb2.mono HBX.out.size)))
  clear hb2 hJ
  rw [hy, Oper.uponIn_round]
  refine ⟨fun h => by simp [wdp] at h, ?_⟩
  refine hR.mono ?_
  clear hR hy
  rintro e W3 (⟨rfl, hJ3, hb3, hk3⟩ | ⟨rfl, hJ3⟩)
  rotate_left
  · gi_wp2
    all_goals (try (refine ⟨fun _ h => (by cases h), ?_⟩; gi_wp2))
    all_goals go_ret
    all_goals exact .inr ⟨rfl, [cl (⟨#[123]⟩ : ByteArray)], ⟨(Z ++ [(⟨#[125]⟩ : ByteArray)]).map cl, by simp⟩, hJ3⟩
  have HW3 : Hid (J (pre ++ [cl (⟨#[123]⟩ : ByteArray)]) W3 ∧ Below w0.heap.size w0 W3) := ⟨hJ3, HB2.out.trans hb3⟩
  have O3 := hk3.own HOB.out (Nat.ne_of_gt HBB.out) (by decide)
  have v0 : W3.cell? ⟨w2.heap.size, 0, none⟩ = some (.slice A ns.length ca) := by rw [O3.cell]; rfl
  have v1 : W3.cell? ⟨w2.heap.size, 1, none⟩ = some (.slice K kids.length kc) := by rw [O3.cell]; rfl
  have vl := O3.lt
  clear O3
  clear hJ3 hb3 hk3
  gi_wp2_with (gi_at_call 148; refine (HKC.out W3 HW3.out).mono ?_; rintro e W4 (⟨rfl, hJ4, hb4⟩ | ⟨rfl, q, hq, hJ4⟩))
  rotate_left
  · have HF : Hid (YPost w0 J Jx pre (((⟨#[123]⟩ : ByteArray) :: (Z ++ [(⟨#[125]⟩ : ByteArray)])).map cl) (.returned (.bool false)) W4) := by
      obtain ⟨r, hr⟩ := hq
      refine .inr ⟨rfl, cl (⟨#[123]⟩ : ByteArray) :: q, ⟨r ++ [cl (⟨#[125]⟩ : ByteArray)], ?_⟩, by simpa only [List.append_assoc, List.cons_append, List.nil_append] using hJ4⟩
      simp only [List.map_cons, List.map_append, List.map_nil, ← hr, List.cons_append, List.append_assoc]
    clear hJ4 hq
    (try refine ⟨fun _ h => (by cases h), ?_⟩)
    gi_wp2
    all_goals (try (refine ⟨fun _ h => (by cases h), ?_⟩; gi_wp2))
    all_goals go_ret
    all_goals exact HF.out
  obtain ⟨fn5, tm5, as5, bo5, hy5, hR5⟩ := hY.y (m - 1) ((pre ++ [cl (⟨#[123]⟩ : ByteArray)]) ++ Z.map cl) (cl (⟨#[125]⟩ : ByteArray)) W4 hJ4 (by simp only [List.length_append, List.length_map, List.length_cons, List.length_nil]; have := HLN.out; omega)
  rw [cl_val (by decide)] at hy5
  rw [hy5, Oper.uponIn_round]
  refine ⟨fun h => by simp [wdp] at h, ?_⟩
  refine hR5.mono ?_
  clear hR5 hy5
  rintro e W5 (⟨rfl, hJ5, hb5, _⟩ | ⟨rfl, hJ5⟩)
  · have HF : Hid (YPost w0 J Jx pre (((⟨#[123]⟩ : ByteArray) :: (Z ++ [(⟨#[125]⟩ : ByteArray)])).map cl) (.returned (.bool true)) W5) := .inl ⟨rfl, by simpa only [List.map_cons, List.map_append, List.map_nil, List.append_assoc, List.cons_append, List.nil_append] using hJ5, hb4.trans hb5⟩
    clear hJ5 hb5 hJ4 hb4
    gi_wp2
    go_ret
    exact HF.out
  · have HF : Hid (YPost w0 J Jx pre (((⟨#[123]⟩ : ByteArray) :: (Z ++ [(⟨#[125]⟩ : ByteArray)])).map cl) (.returned (.bool false)) W5) := .inr ⟨rfl, _, List.prefix_refl _, by simpa only [List.map_cons, List.map_append, List.map_nil, List.append_assoc, List.cons_append, List.nil_append] using hJ5⟩
    clear hJ5 hJ4 hb4
    gi_wp2
    go_ret
    exact HF.out

theorem yieldS {l N bb n : Nat} {w0 : World} {J Jx : List Sub → World → Prop} (hY : YS l N bb w0 J Jx) (IH : YvP l N bb w0 J Jx n) : YvP l N bb w0 J Jx (n + 1) := by
  intro k f t ns kids A K ca kc B0 m pre W hh hv ho hl hb hJ hN
  have hl' := hl
  cases hl' with
  | mk _ _ _ _ _ l1 l2 l3 l4 l5 =>
  have hone := ho.one
  rcases hone with ⟨rfl, _⟩ | ⟨rfl, _⟩ | ⟨rfl, _⟩ | ⟨rfl, _⟩ | ⟨rfl, _⟩ | ⟨rfl, _⟩
  · have hp : parts (.mk 1 f t ns kids) = [nullS] := by rw [parts_mk]; simp
    rw [hp] at hN ⊢
    exact yield1 hY m f t ns kids A K ca kc pre W ho.one l2 l4 hb hJ (by simp at hN; omega)
  · have hp : parts (.mk 2 f t ns kids) = [if f = true then trueS else falseS] := by rw [parts_mk]; simp
    rw [hp] at hN ⊢
    exact yield2 hY m f t ns kids A K ca kc pre W ho.one l2 l4 hb hJ (by simp at hN; omega)
  · have hp : parts (.mk 3 f t ns kids) = [t] := by rw [parts_mk]; simp
    rw [hp] at hN ⊢
    exact yield3 hY m f t ns kids A K ca kc pre W ho.one l2 l4 hb hJ (by simp at hN; omega)
  · have hp : parts (.mk 4 f t ns kids) = [quoS t] := by rw [parts_mk]; simp
    rw [hp] at hN ⊢
    exact yield4 hY m f t ns kids A K ca kc pre W ho.one l2 l4 hb hJ (by simp at hN; omega)
  · exact yield5 hY IH m f t ns kids A K ca kc B0 pre W (by omega) hv ho hl hb hJ hN
  · exact yield6 hY IH m f t ns kids A K ca kc B0 pre W (by omega) hv ho hl hb hJ hN
theorem yield_all {l N bb : Nat} {w0 : World} {J Jx : List Sub → World → Prop} (hY : YS l N bb w0 J Jx) : ∀ n, YvP l N bb w0 J Jx n
  | 0 => by intro k f t ns kids A K ca kc B0 m pre W hh; omega
  | n + 1 => yieldS hY (yield_all hY n)

end Go.Proofs.YtkhcappjhefkjaaGreatDoor

/- A builder through a range over parts; impl.jsonParts. -/
namespace Go.Proofs.YtkhcappjhefkjaaGreatDoor
open Go.RowKit Go.Shelf
set_option linter.unusedVariables false
attribute [local go_sem] Oper.semAt_some

/-- A builder that has some bytes; what else lies is kept when it is written. -/
def BUF (B b : Nat) (l : List UInt8) (w : World) : Prop := Lib.IsBuilderF 107 5 B b (Lib.byteCells l) w
theorem BUF.write (B b : Nat) (l : List UInt8) (s : ByteArray) (w : World) (h : BUF B b l w) (hlen : l.length + s.size ≤ 10000000) (hBw : B ≤ w.heap.size) :
    Calls Tryz.prog 86 #[.pointer (some ⟨b, 0, none⟩), .string s] w fun e w' => e = .returned (.tuple #[.int .i64 s.size, .nilIface]) ∧ BUF B b (l ++ bl s) w' ∧ Below B w w' ∧ Lib.OthersKept 5 (some b) w w' :=
  (Any.Builder_WriteString_k Tryz.lays166 Tryz.lays166_extra B b (Lib.byteCells l) s w h (by rw [Lib.byteCells_length]; omega) hBw).mono fun e w' ⟨h1, h2, h3, h4⟩ => ⟨h1, .inr (by rw [Lib.byteCells_append]; exact h2), h3, h4⟩
theorem BUF.string (B b : Nat) (l : List UInt8) (w : World) (h : BUF B b l w) (hBw : B ≤ w.heap.size) :
    Calls Tryz.prog 87 #[.pointer (some ⟨b, 0, none⟩)] w fun e w' => e = .returned (.string ⟨l.toArray⟩) ∧ Below B w w' ∧ Lib.OthersKept 5 (some b) w w' := (Any.Builder_String_any_k Tryz.lays169 Tryz.Builder_Extra_169 B b l w h hBw).mono fun _ _ ⟨h1, _, h3, h4⟩ => ⟨h1, h3, h4⟩
theorem BUF.len (B b : Nat) (l : List UInt8) (w : World) (h : BUF B b l w) :
    Calls Tryz.prog 85 #[.pointer (some ⟨b, 0, none⟩)] w fun e w' => e = .returned (.int .i64 l.length) ∧ w = w' := by
  have := Any.Builder_Len_f Tryz.lays170 B b (Lib.byteCells l) w h
  rw [Lib.byteCells_length] at this
  exact this.mono fun _ _ ⟨h1, h2⟩ => ⟨h1, h2.symm⟩
theorem BUF.new (w : World) : BUF w.heap.size w.heap.size [] (w.alloc (.cells #[.pointer none, .slice none 0 0] 107)) := Lib.IsBuilderF.of (BU.new w)
theorem BUF.kept {B b : Nat} {l : List UInt8} {w w' : World} {row : Option Nat} (h : BUF B b l w) (hg : w.grownBy w' row) (hr : ∀ r, row = some r → ∃ o : Obj, w.heap[r]? = some o ∧ o.isCells = false) : BUF B b l w' := by
  have hcell : ∀ (k : Nat) (cs : Array Value) (t : TypeId) (fz : Nat × Nat), w.heap[k]? = some (Obj.cells cs t fz) → w'.heap[k]? = some (Obj.cells cs t fz) := fun k cs t fz hk => by
    refine (hg.block k (Array.getElem?_eq_some_iff.1 hk).1 (fun e => ?_)).trans hk
    obtain ⟨o, ho, hc⟩ := hr k e.symm
    rw [hk] at ho; injection ho with ho; subst ho; cases hc
  have hrow : ∀ {base : Nat} {e : TypeId} {sz : Nat} {v : Value} {n : Nat} {xs : List Value}, w.ownsRowF base e sz v n xs → w'.ownsRowF base e sz v n xs := fun h => by
    refine ⟨h.1, ?_⟩
    rcases h.2 with h | ⟨g, cap, cur, fz, h1, h2, h3, h4⟩
    · exact .inl h
    · exact .inr ⟨g, cap, cur, fz, h1, h2, hcell _ _ _ _ h3, h4⟩
  rcases h with h | h
  · obtain ⟨hB, v, hv, hown, hne⟩ := h
    exact .inl ⟨hB, v, hcell _ _ _ _ hv, hrow hown, hne⟩
  · obtain ⟨hB, v, hv, hown, hne⟩ := h
    exact .inr ⟨hB, v, hcell _ _ _ _ hv, hrow hown, hne⟩
theorem BUF.keep {B b : Nat} {l : List UInt8} {w w' : World} (h : BUF B b l w) (hb : Below w.heap.size w w') : BUF B b l w' :=
  h.kept (row := none) ⟨hb.os, hb.tape, hb.output, hb.size, fun k hk _ => hb.block k hk⟩ (fun r e => by cases e)
theorem BUF.lt {B b : Nat} {l : List UInt8} {w : World} (h : BUF B b l w) : b < w.heap.size := by
  rcases h with h | h <;> exact h.lt
theorem BUF.cells {B b : Nat} {l : List UInt8} {w : World} (h : BUF B b l w) : ∃ cs t fz, w.heap[b]? = some (Obj.cells cs t fz) := by
  rcases h with h | h
  · obtain ⟨hB, v, hv, _⟩ := h; exact ⟨_, _, _, hv⟩
  · obtain ⟨hB, v, hv, _⟩ := h; exact ⟨_, _, _, hv⟩

theorem kc_of {b : Nat} {w w' : World} (h : Lib.OthersKept 5 (some b) w w') : KC b w w' := fun k cs t fr hk hb ht =>
  h k _ hk (fun e => hb (by injection e)) (fun c fz e => ht (by injection e))
theorem ko_of {B b : Nat} {l : List UInt8} {w w' : World} (hb : BUF B b l w) (hs : w.heap.size ≤ w'.heap.size) (h : Lib.OthersKept 5 (some b) w w') : KeepsOthers w w' := ⟨hs, fun k o hk ho =>
  h k o hk (fun e => by injection e with e; subst e; obtain ⟨cs, t, fz, hc⟩ := hb.cells; rw [hk] at hc; injection hc with hc; subst hc; cases ho) (fun c fz e => by subst e; cases ho)⟩
theorem KC.trans {b : Nat} {x y z : World} (h : KC b x y) (k : KC b y z) : KC b x z := fun i cs t fr hi hb ht => k i cs t fr (h i cs t fr hi hb ht) hb ht
theorem KC.of_below {b : Nat} {w w' : World} (h : Below w.heap.size w w') : KC b w w' := fun k cs t fr hk _ _ => (h.block k (Array.getElem?_eq_some_iff.1 hk).1).trans hk
theorem KC.put {b : Nat} {w : World} {l : Nat} {o o' : Obj} (hl : w.heap[l]? = some o) (ho : o.isCells = false) : KC b w (w.putObj l o') := fun k cs t fr hk _ _ => by
  have hne : k ≠ l := fun e => by subst e; rw [hk] at hl; injection hl with hl; subst hl; cases ho
  exact ((grownBy_putObj' w l o').block k (Array.getElem?_eq_some_iff.1 hk).1 (fun e => hne (by injection e))).trans hk

/-- What a round of the caller keeps. -/
def Kp (b n0 : Nat) (w w' : World) : Prop := Below n0 w w' ∧ KC b w w'

theorem roundAny {m m' : Nat} {P : Program} {l : Nat} {f : FuncId} {tmps : Array Value} {assign body : Code} {w : World} {R : Ending → World → Prop}
    (h : RoundIn Fence.wide m P l f tmps assign body w R) : RoundIn Fence.wide m' P l f tmps assign body w R := ⟨h.1, fun c cs _ => h.2 c cs (fun d h => by cases h)⟩
theorem yieldAny {m : Nat} (m' : Nat) {P : Program} {l : Nat} {args : Array Value} {W : World} {R : Ending → World → Prop} (h : YieldAt Fence.wide m P l args W R) : YieldAt Fence.wide m' P l args W R := by
  obtain ⟨fn, tmps, assign, body, hy, hR⟩ := h
  exact ⟨fn, tmps, assign, body, hy, roundAny hR⟩

set_option maxRecDepth 100000 in
set_option maxHeartbeats 2000000 in
/-- impl.jsonParts's closure: all parts, or the first ones. -/
theorem parts_stops (m : Nat) (bb Bt : Nat) (k : Int) (f : Bool) (t : ByteArray) (ns : List ByteArray) (kids : List Js) (A K : Option Addr) (ca kc B0 : Nat) (w0 w : World)
    (hv : JsV w0 B0 ns kids A K) (ho : JokP (.mk k f t ns kids)) (hl : LimJ 1048576 (.mk k f t ns kids)) (hb : Below w0.heap.size w0 w) (hbb : bb < w.heap.size)
    (hc : Own w Bt 42 [.int .i64 k, .bool f, .string t, .slice A ns.length ca, .slice K kids.length kc]) :
    SeqStopsK Fence.wide m Tryz.prog 123 #[.pointer (some ⟨Bt, 0, none⟩)] (fun x : Sub => #[Value.string x.1]) (Kp bb w0.heap.size) (fun ys => ys = (parts (.mk k f t ns kids)).map cl) (fun pre => pre <+: (parts (.mk k f t ns kids)).map cl) (parts (.mk k f t ns kids)).length w := by
  intro l J Jx W hW hJ hJx hY h0
  have hYS : YS l (parts (.mk k f t ns kids)).length bb w0 (fun s X => J s X ∧ bb < X.heap.size ∧ W.heap.size ≤ X.heap.size) Jx := by
    refine ⟨fun s X X' h hX => ⟨hJ s X X' none h.1 ⟨hX.os, hX.tape, hX.output, hX.size, fun k hk _ => hX.block k hk⟩ (fun r e => by cases e), Nat.lt_of_lt_of_le h.2.1 hX.size, Nat.le_trans h.2.2 hX.size⟩, fun s X h => h.2.1, fun m' pre x X h hlen => ?_⟩
    refine (yieldAny m' (hY pre x X h.1 hlen)).mono ?_
    rintro e X' (⟨he, hj, hk⟩ | ⟨he, hj⟩)
    · exact .inl ⟨he, ⟨hj, Nat.lt_of_lt_of_le h.2.1 hk.1.size, Nat.le_trans h.2.2 hk.1.size⟩, hk.1, hk.2⟩
    · exact .inr ⟨he, hj⟩
  have hc' := hc.keep hW
  have hbW : Below w0.heap.size w0 W := hb.trans (hW.mono hb.size)
  have HC := Lib.hid (yield_all hYS (htJ kids + 1) k f t ns kids A K ca kc B0 (m - 1) [] W (Nat.le_refl _) hv ho hl hbW ⟨h0, Nat.lt_of_lt_of_le hbb hW.size, Nat.le_refl _⟩ (by simp))
  have c0 : W.cell? ⟨Bt, 0, none⟩ = some (.int .i64 k) := by rw [hc'.cell]; rfl
  have c1 : W.cell? ⟨Bt, 1, none⟩ = some (.bool f) := by rw [hc'.cell]; rfl
  have c2 : W.cell? ⟨Bt, 2, none⟩ = some (.string t) := by rw [hc'.cell]; rfl
  have c3 : W.cell? ⟨Bt, 3, none⟩ = some (.slice A ns.length ca) := by rw [hc'.cell]; rfl
  have c4 : W.cell? ⟨Bt, 4, none⟩ = some (.slice K kids.length kc) := by rw [hc'.cell]; rfl
  have cl0 := hc'.lt
  clear hYS hc hc' hv ho hl
  have wfn : ∀ k, Fence.wide.fn k := fun _ => trivial
  have wdp : Fence.wide.depth.isSome = false := rfl
  show CallsIn Fence.wide m Tryz.prog 123 #[.func (.yield l) #[] #[], .pointer (some ⟨Bt, 0, none⟩)] W _
  refine callsIn_of_wp Tryz.func123 rfl trivial ?_ rfl
  simp only [Tryz.ntmps123, List.size_toArray, List.length_cons, List.length_nil, Nat.reduceAdd, Nat.reduceSub, Array.replicate_succ, Array.replicate_zero, List.push_toArray, List.append_toArray, List.nil_append, List.cons_append]
  gi_wp2_with (gi_at_call 124; refine HC.out.mono ?_; rintro e W1 (⟨rfl, hJ1, _⟩ | ⟨rfl, q, hq, hx⟩))
  · go_end0
    exact ⟨⟨_, rfl⟩, .inl ⟨_, rfl, by simpa using hJ1.1⟩⟩
  · go_end0
    exact ⟨⟨_, rfl⟩, .inr ⟨q, hq, by simpa using hx⟩⟩

set_option maxRecDepth 100000 in
theorem jsonParts_any (k : Int) (f : Bool) (t : ByteArray) (ns : List ByteArray) (kids : List Js) (A K : Option Addr) (ca kc : Nat) (w : World) :
    Calls Tryz.prog 84 #[.agg #[.int .i64 k, .bool f, .string t, .slice A ns.length ca, .slice K kids.length kc]] w fun e w' => e = .returned (.func (.func 123) #[] #[.pointer (some ⟨w.heap.size, 0, none⟩)]) ∧ w' = w.alloc (.cells #[.int .i64 k, .bool f, .string t, .slice A ns.length ca, .slice K kids.length kc] 42) := by
  go_enter Tryz.func84, Tryz.ntmps84
  go_wp2
  go_ret
  exact ⟨rfl, rfl⟩

end Go.Proofs.YtkhcappjhefkjaaGreatDoor

/- impl.JsonWrite, impl.JsonOk. -/
namespace Go.Proofs.YtkhcappjhefkjaaGreatDoor
open Go.RowKit Go.Shelf
set_option linter.unusedVariables false
attribute [local go_sem] Oper.semAt_some

theorem own_kept {A B : World} {row : Option Nat} {g : Nat} {t : TypeId} {xs : List Value} (h : Own A g t xs) (hg : A.grownBy B row) (hr : ∀ r, row = some r → ∃ o : Obj, A.heap[r]? = some o ∧ o.isCells = false) : Own B g t xs := by
  refine (hg.block g h.lt (fun e => ?_)).trans h
  obtain ⟨o, ho, hc⟩ := hr g e.symm
  unfold Own at h
  rw [h] at ho; injection ho with ho; subst ho; cases hc

set_option maxRecDepth 100000 in
set_option maxHeartbeats 4000000 in
theorem implWrite_in (k : Int) (f : Bool) (t : ByteArray) (ns : List ByteArray) (kids : List Js) (A K : Option Addr) (ca kc B0 : Nat) (w : World) (hv : JsV w B0 ns kids A K) (hl : LimJ 1048576 (.mk k f t ns kids)) (hle : ns.length ≤ ca) :
    CallsIn Fence.wide 9 Tryz.prog 69 #[.agg #[.int .i64 k, .bool f, .string t, .slice A ns.length ca, .slice K kids.length kc]] w (WritePost (.mk k f t ns kids) w) := by
  obtain ⟨W0, hW0⟩ : ∃ W0, ((w.alloc (.cells #[.int .i64 k, .bool f, .string t, .slice A ns.length ca, .slice K kids.length kc] 42)).alloc (.cells #[.string { data := #[] }] 9)).alloc (.cells #[.int .i64 40] 104) = W0 := ⟨_, rfl⟩
  have HBX : Hid (Below w.heap.size w W0) := by rw [← hW0]; exact ((below_box _).alloc (by simp) _).alloc (by simp; omega) _
  have OA : Hid (Own W0 w.heap.size 42 [.int .i64 k, .bool f, .string t, .slice A ns.length ca, .slice K kids.length kc]) := by
    rw [← hW0]; exact ((Own.new w 42 #[.int .i64 k, .bool f, .string t, .slice A ns.length ca, .slice K kids.length kc]).alloc _).alloc _
  have OR : Hid (Own W0 (w.heap.size + 1) 9 [.string { data := #[] }]) := by
    have h := Own.new (w.alloc (.cells #[.int .i64 k, .bool f, .string t, .slice A ns.length ca, .slice K kids.length kc] 42)) 9 #[.string { data := #[] }]
    rw [World.size_alloc] at h
    rw [← hW0]; exact h.alloc _
  have OC : Hid (Own W0 (w.heap.size + 2) 104 [.int .i64 40]) := by
    have h := Own.new ((w.alloc (.cells #[.int .i64 k, .bool f, .string t, .slice A ns.length ca, .slice K kids.length kc] 42)).alloc (.cells #[.string { data := #[] }] 9)) 104 #[.int .i64 40]
    rw [World.size_alloc, World.size_alloc] at h
    rw [← hW0]; exact h
  have HFT := Lib.hid (fit_all 5 (by omega) k f t ns kids A K ca kc B0 (w.heap.size + 2) 40 1 w W0 hv hl hle HBX.out (by omega) OC.out (by omega) (by omega) (by omega))
  have HV := Lib.hid hv
  have HL := Lib.hid hl
  have HW0 := Lib.hid hW0
  clear hv hl hW0
  have wfn : ∀ k, Fence.wide.fn k := fun _ => trivial
  have wdp : Fence.wide.depth.isSome = false := rfl
  refine callsIn_of_wp_marks Tryz.func69 rfl trivial ?_ rfl
  simp only [Tryz.ntmps69, List.size_toArray, List.length_cons, List.length_nil, Nat.reduceAdd, Nat.reduceSub, Array.replicate_succ, Array.replicate_zero, List.push_toArray, List.append_toArray, List.nil_append, List.cons_append]
  gi_wp2_with fail
  rw [HW0.out]
  refine (callsIn_wide.2 HFT.out).mono ?_
  rintro e w1 ⟨r, L', rfl, p1, p2, p3, p4⟩
  have P1 := Lib.hid p1
  have HX1 := Lib.hid p4
  have O1 := p4.own OA.out (by omega)
  have O2 := p4.own OR.out (by omega)
  have HB1 := Lib.hid (p4.base HBX.out (by omega))
  have k0 : w1.cell? ⟨w.heap.size, 0, none⟩ = some (.int .i64 k) := by rw [O1.cell]; rfl
  have k1 : w1.cell? ⟨w.heap.size, 1, none⟩ = some (.bool f) := by rw [O1.cell]; rfl
  have k2 : w1.cell? ⟨w.heap.size, 2, none⟩ = some (.string t) := by rw [O1.cell]; rfl
  have k3 : w1.cell? ⟨w.heap.size, 3, none⟩ = some (.slice A ns.length ca) := by rw [O1.cell]; rfl
  have k4 : w1.cell? ⟨w.heap.size, 4, none⟩ = some (.slice K kids.length kc) := by rw [O1.cell]; rfl
  have kl := O1.lt
  have r0 : w1.cell? ⟨w.heap.size + 1, 0, none⟩ = some (.string { data := #[] }) := by rw [O2.cell]; rfl
  have rf := O2.frozen 0
  have rl := O2.lt
  have HO1 := Lib.hid O1
  have HO2 := Lib.hid O2
  clear p1 p2 p3 p4 O1 O2 HFT OA OR OC HBX HW0
  simp only [Bool.false_eq_true, if_false]
  obtain ⟨Q, hQ⟩ : ∃ Q : Prop, Q ↔ JsonP (.mk k f t ns kids) := ⟨_, Iff.rfl⟩
  have HQ : Hid (Q ↔ htJ kids + 1 ≤ 5 ∧ JokP (.mk k f t ns kids) ∧ nodesJ kids + 1 ≤ 40 ∧ (jtx (.mk k f t ns kids)).length ≤ 300) := hQ.trans (by unfold JsonP; rw [htJ_mk, nodesJ_mk])
  have HWP : Hid (∀ s w', (Q → bl s = jtx (.mk k f t ns kids)) → (¬ Q → bl s = []) → Below w.heap.size w w' → WritePost (.mk k f t ns kids) w (.returned (.string s)) w') := fun s w' h1 h2 h3 => ⟨s, rfl, fun h => h1 (hQ.2 h), fun h => h2 (fun q => h (hQ.1 q)), h3⟩
  clear hQ
  cases r
  · have HF : Hid (¬ Q) := fun h => by
      have q := HQ.out.1 h
      have := P1.out.2 ⟨⟨q.1, q.2.1⟩, by omega⟩
      cases this
    gi_wp2
    have hc5 := (HO2.out.set_ 0 (.string { data := #[] })).cell 0
    simp only [List.set_cons_zero, List.getElem?_cons_zero] at hc5
    refine ⟨.string ⟨#[]⟩, ?_, HWP.out _ _ (fun h => absurd h HF.out) (fun _ => rfl) (HB1.out.setCell (p := ⟨w.heap.size + 1, 0, none⟩) (by simp) _)⟩
    simp [results, Tryz.f69, go_sem, hc5]
  · have HFIT : Hid ((htJ kids + 1 ≤ 5 ∧ JokP (.mk k f t ns kids)) ∧ nodesJ kids + 1 ≤ 40) := by
      have q : (htJ kids + 1 ≤ 5 ∧ JokP (.mk k f t ns kids)) ∧ ((nodesJ kids + 1 : Nat) : Int) ≤ 40 := by first | exact P1.out.1 rfl | exact P1.out.1 trivial
      exact ⟨q.1, by omega⟩
    have HTX : Hid (((parts (.mk k f t ns kids)).map cl).flatMap (fun x => bl x.1) = jtx (.mk k f t ns kids)) := by
      show _ = _
      rw [cl_flat (parts_small _ _ (Nat.le_refl _) HFIT.out.1.2), parts_txt _ _ (Nat.le_refl _)]
    clear P1 HX1
    gi_wp2_with fail
    refine (callsIn_wide.2 (jsonParts_any k f t ns kids A K ca kc _)).mono ?_
    rintro e w2 ⟨rfl, hw2⟩
    rw [World.size_alloc]
    have HBU : Hid (BUF w1.heap.size w1.heap.size [] w2) := by
      rw [hw2]; exact (BUF.new w1).keep (below_box _)
    have OJ : Hid (Own w2 (w1.heap.size + 1) 42 [.int .i64 k, .bool f, .string t, .slice A ns.length ca, .slice K kids.length kc]) := by
      have h := Own.new (w1.alloc (.cells #[.pointer none, .slice none 0 0] 107)) 42 #[.int .i64 k, .bool f, .string t, .slice A ns.length ca, .slice K kids.length kc]
      rw [World.size_alloc] at h
      rw [hw2]; exact h
    have HB2 : Hid (Below w1.heap.size w1 w2) := by rw [hw2]; exact (below_box _).alloc (by simp) _
    have sz2 : w2.heap.size = w1.heap.size + 2 := by rw [hw2]; simp
    have hwn : w.heap.size + 2 ≤ w1.heap.size := by omega
    have HBW : Hid (Below w.heap.size w w2) := HB1.out.trans (HB2.out.mono (by omega))
    have HR1 : Hid (Own w1 (w.heap.size + 1) 9 [.string { data := #[] }]) := HO2.out
    clear hw2 k0 k1 k2 k3 k4 kl r0 rf rl HO1
    gi_wp2_with fail
    refine wpIn_rangeFunc_ownF rfl (by omega) (gf := 123) (lb := #[.pointer (some ⟨w1.heap.size + 1, 0, none⟩)]) rfl trivial (enters_of Tryz.func123 (by kernel_rfl) rfl)
      (parts_stops 8 w1.heap.size (w1.heap.size + 1) k f t ns kids A K ca kc B0 w w2 HV.out HFIT.out.1.2 HL.out HBW.out (by omega) OJ.out) (fun h1 h2 => ⟨h1.1.trans h2.1, h1.2.trans h2.2⟩)
      (fun W l o o' hl ho hc hw => ⟨belowK_b (w := w2) (by omega) W l o o' hl ho hc hw, KC.put ho hc⟩) (Below.refl _ _) (fun _ => rfl)
      (fun pre W => (BUF w1.heap.size w1.heap.size (pre.flatMap (fun x => bl x.1)) W ∧ (pre.flatMap (fun x => bl x.1)).length ≤ 300) ∧ Below w1.heap.size w1 W)
      (fun c pre W => (c = .ret ∧ 300 < (pre.flatMap (fun x => bl x.1)).length ∧ Own W (w.heap.size + 1) 9 [.string { data := #[] }]) ∧ Below w.heap.size w W)
      (OwnFrom.and (Go.Own.from (fun s A B row hs hg hr => ⟨hs.1.kept hg hr, hs.2⟩) _) (ownFrom_below (by omega) (by omega)))
      (fun c => OwnFrom.and (Go.Own.from (fun s A B row hs hg hr => ⟨hs.1, hs.2.1, own_kept hs.2.2 hg hr⟩) _) (ownFrom_below (by omega) (by omega)))
      ⟨⟨HBU.out, by simp⟩, HB2.out⟩
      (fun x => { tmps := #[.agg #[.int .i64 k, .bool f, .string t, .slice A ns.length ca, .slice K kids.length kc], .pointer (some ⟨w.heap.size, 0, none⟩), .pointer (some ⟨w.heap.size + 1, 0, none⟩), .pointer (some ⟨w.heap.size + 1 + 1, 0, none⟩), .pointer (some ⟨w1.heap.size, 0, none⟩), .string x.1, .agg #[.int .i64 40], .agg #[.int .i64 k, .bool f, .string t, .slice A ns.length ca, .slice K kids.length kc], .bool true, .bool false, .agg #[.int .i64 k, .bool f, .string t, .slice A ns.length ca, .slice K kids.length kc], .func (.func 123) #[] #[.pointer (some ⟨w1.heap.size + 1, 0, none⟩)], .string x.1, undef, undef, undef, undef, undef, undef, undef, undef], defers := [] }) ?assign ?body ?done ?stop
    case assign =>
      intro l x W K hK
      gi_wp2
      exact hK
    case body =>
      rintro l pre x W ⟨⟨hbuf, hlen⟩, hbw⟩ _
      have wfn' : ∀ k, (Fence.wide.inRound l).fn k := fun _ => trivial
      have wdp' : (Fence.wide.inRound l).depth.isSome = false := rfl
      obtain ⟨x, hx⟩ := x
      have hfl : ((pre ++ [(⟨x, hx⟩ : Sub)]).flatMap (fun x => bl x.1)) = pre.flatMap (fun x => bl x.1) ++ bl x := by simp
      have HFL := Lib.hid hfl
      clear hfl
      generalize hg : pre.flatMap (fun x => bl x.1) = g at *
      have hbl := BUF.len w1.heap.size w1.heap.size g W hbuf
      have hWn : w1.heap.size ≤ W.heap.size := by have := hbw.size; omega
      have HLENC := Lib.hid hbl
      clear hbl
      by_cases q : 300 < g.length + x.size
      · have q' : (300 : Int) < (g.length : Int) + (x.size : Int) := by omega
        have hor : Own W (w.heap.size + 1) 9 [.string { data := #[] }] := HR1.out.below hbw (by omega)
        have s0 : W.cell? ⟨w.heap.size + 1, 0, none⟩ = some (.string { data := #[] }) := by rw [hor.cell]; rfl
        have sf := hor.frozen 0
        have sl := hor.lt
        have HPOST : Hid (KeepsOthers W (W.setCell ⟨w.heap.size + 1, 0, none⟩ (.string { data := #[] })) ∧ (300 < ((pre ++ [(⟨x, hx⟩ : Sub)]).flatMap (fun x => bl x.1)).length ∧ Own (W.setCell ⟨w.heap.size + 1, 0, none⟩ (.string { data := #[] })) (w.heap.size + 1) 9 [.string { data := #[] }]) ∧ Below w.heap.size w (W.setCell ⟨w.heap.size + 1, 0, none⟩ (.string { data := #[] }))) :=
          ⟨KeepsOthers.setCell _ _ _, ⟨by rw [HFL.out, List.length_append, ← bl_size]; exact q, hor.set_ 0 _⟩, (HB1.out.trans (hbw.mono (by omega))).setCell (p := ⟨w.heap.size + 1, 0, none⟩) (by simp) _⟩
        clear hg q hor hbuf hbw
        gi_wp2_with (gi_at_call 85; refine (CallsIn.inRound l (callsIn_wide.2 HLENC.out)).mono ?_; rintro e W1 ⟨rfl, rfl⟩)
        exact ⟨HPOST.out.1, ⟨rfl, HPOST.out.2.1.1, HPOST.out.2.1.2⟩, HPOST.out.2.2⟩
      · have q' : ¬ (300 : Int) < (g.length : Int) + (x.size : Int) := by omega
        have HWR := Lib.hid (BUF.write w1.heap.size w1.heap.size g x W hbuf (by omega) hWn)
        have HFIN : Hid (∀ W', BUF w1.heap.size w1.heap.size (g ++ bl x) W' → Below w1.heap.size W W' → Lib.OthersKept 5 (some w1.heap.size) W W' → KeepsOthers W W' ∧ Kp w1.heap.size w.heap.size W W' ∧ (BUF w1.heap.size w1.heap.size ((pre ++ [(⟨x, hx⟩ : Sub)]).flatMap (fun x => bl x.1)) W' ∧ ((pre ++ [(⟨x, hx⟩ : Sub)]).flatMap (fun x => bl x.1)).length ≤ 300) ∧ Below w1.heap.size w1 W') := fun W' h1 h2 h3 =>
          ⟨ko_of hbuf h2.size h3, ⟨h2.mono (by omega), kc_of h3⟩, ⟨by rw [HFL.out]; exact h1, by rw [HFL.out, List.length_append, ← bl_size]; omega⟩, hbw.trans h2⟩
        clear hg q hbuf hbw
        gi_wp2_with (first
          | (gi_at_call 85; refine (CallsIn.inRound l (callsIn_wide.2 HLENC.out)).mono ?_; rintro e W1 ⟨rfl, rfl⟩)
          | (gi_at_call 86; refine (CallsIn.inRound l (callsIn_wide.2 HWR.out)).mono ?_; rintro e W1 ⟨rfl, h1, h2, h3⟩))
        exact HFIN.out _ h1 h2 h3
    case done =>
      rintro D xs W hD rfl ⟨⟨hbuf, hlen⟩, hbw⟩ hK
      rw [HTX.out] at hbuf hlen
      have hWn : w1.heap.size ≤ W.heap.size := by have := hbw.size; omega
      have HST := Lib.hid (BUF.string w1.heap.size w1.heap.size _ W hbuf hWn)
      have HQT : Hid Q := HQ.out.2 ⟨HFIT.out.1.1, HFIT.out.1.2, HFIT.out.2, hlen⟩
      have HBUF := Lib.hid hbuf
      clear hbuf
      have hbw2 := hbw
      clear hbw
      have hDn : w.heap.size ≤ D := by omega
      have hDW : D < W.heap.size := (Array.getElem?_eq_some_iff.1 hK).1
      have HB9 : Hid (Below w.heap.size w W) := HB1.out.trans (hbw2.mono (by omega))
      have HRW : Hid (Own W (w.heap.size + 1) 9 [.string { data := #[] }]) := HR1.out.below hbw2 (by omega)
      clear hbw2
      gi_wp2_with fail
      refine (callsIn_wide.2 HST.out).mono ?_
      rintro e W1 ⟨rfl, hb1, ho1⟩
      have hor : Own W1 (w.heap.size + 1) 9 [.string { data := #[] }] := HRW.out.below hb1 (by omega)
      have s0 : W1.cell? ⟨w.heap.size + 1, 0, none⟩ = some (.string { data := #[] }) := by rw [hor.cell]; rfl
      have sf := hor.frozen 0
      have sl := hor.lt
      have hK1 : W1.heap[D]? = some (Obj.deferred (some [])) := (ko_of HBUF.out hb1.size ho1).same D _ hK rfl
      have HB8 := Lib.hid (HB9.out.trans (hb1.mono (by omega)))
      have HOR := Lib.hid hor
      clear hb1 ho1 hor hK
      gi_wp2
      have hK' := (KeepsOthers.setCell W1 ⟨w.heap.size + 1, 0, none⟩ (.string ⟨(jtx (.mk k f t ns kids)).toArray⟩)).same D _ hK1 rfl
      refine ⟨by simp, .inl ⟨_, _, rfl, run_takeDeferred hK', ?_⟩⟩
      have hc5 := cell_kept (World.cell?_setCell_same' W1 ⟨w.heap.size + 1, 0, none⟩ (.string ⟨(jtx (.mk k f t ns kids)).toArray⟩) (by rw [s0]; rfl)) (grownBy_putObj' _ D (.deferred none)) (fun r e => by cases e; exact ⟨_, hK', rfl⟩)
      refine ⟨.string ⟨(jtx (.mk k f t ns kids)).toArray⟩, ?_, HWP.out _ _ (fun _ => bl_mk _) (fun h => absurd HQT.out h) ((HB8.out.setCell (p := ⟨w.heap.size + 1, 0, none⟩) (by simp) _).trans (belowK_b (w := w) (Nat.le_refl _) _ D _ _ hDn hK' rfl rfl))⟩
      simp [results, Tryz.f69, go_sem, hc5]
    case stop =>
      rintro D c pre W hD hpre ⟨⟨rfl, hlen, hor⟩, hbw⟩ hK
      have HNQ : Hid (¬ Q) := fun h => by
        have q := (HQ.out.1 h).2.2.2
        obtain ⟨t', ht'⟩ := hpre
        rw [← HTX.out, ← ht', List.flatMap_append, List.length_append] at q
        omega
      have s0 : W.cell? ⟨w.heap.size + 1, 0, none⟩ = some (.string { data := #[] }) := by rw [hor.cell]; rfl
      have hDn : w.heap.size ≤ D := by omega
      gi_wp2
      refine ⟨by simp, .inl ⟨_, _, rfl, run_takeDeferred hK, ?_⟩⟩
      have hc5 := cell_kept s0 (grownBy_putObj' _ D (.deferred none)) (fun r e => by cases e; exact ⟨_, hK, rfl⟩)
      refine ⟨.string ⟨#[]⟩, ?_, HWP.out _ _ (fun h => absurd h HNQ.out) (fun _ => rfl) (hbw.trans (belowK_b (w := w) (Nat.le_refl _) W D _ _ hDn hK rfl rfl))⟩
      simp [results, Tryz.f69, go_sem, hc5]


theorem implWrite_any (k : Int) (f : Bool) (t : ByteArray) (ns : List ByteArray) (kids : List Js) (A K : Option Addr) (ca kc B0 : Nat) (w : World) (hv : JsV w B0 ns kids A K) (hl : LimJ 1048576 (.mk k f t ns kids)) (hle : ns.length ≤ ca) :
    Calls Tryz.prog 69 #[.agg #[.int .i64 k, .bool f, .string t, .slice A ns.length ca, .slice K kids.length kc]] w (WritePost (.mk k f t ns kids) w) :=
  callsIn_wide.1 (implWrite_in k f t ns kids A K ca kc B0 w hv hl hle)

set_option maxRecDepth 100000 in
theorem implOk_any (k : Int) (f : Bool) (t : ByteArray) (ns : List ByteArray) (kids : List Js) (A K : Option Addr) (ca kc B0 : Nat) (w : World) (hv : JsV w B0 ns kids A K) (hl : LimJ 1048576 (.mk k f t ns kids)) (hle : ns.length ≤ ca) :
    Calls Tryz.prog 33 #[.agg #[.int .i64 k, .bool f, .string t, .slice A ns.length ca, .slice K kids.length kc]] w (BoolPost (JsonP (.mk k f t ns kids)) w) := by
  have hbx : Below w.heap.size w (w.alloc (.cells #[.int .i64 k, .bool f, .string t, .slice A ns.length ca, .slice K kids.length kc] 42)) := below_box _
  have HC := Lib.hid (implWrite_any k f t ns kids A K ca kc B0 _ (hv.keep hbx) hl hle)
  have HBX := Lib.hid hbx
  clear hv hl hbx
  go_enter Tryz.func33, Tryz.ntmps33
  go_wp2_with fail
  refine HC.out.mono ?_
  rintro e w1 ⟨s, rfl, h1, h2, hb⟩
  have HB := Lib.hid (HBX.out.trans (hb.mono HBX.out.size))
  have HI : Hid ((!s.toList.isEmpty) = true ↔ JsonP (.mk k f t ns kids)) := by
    show _ ↔ _
    rw [ByteArray.toList_eq]
    change (!(bl s).isEmpty) = true ↔ _
    by_cases q : JsonP (.mk k f t ns kids)
    · have := jtx_pos q.2.1.one
      rw [← h1 q] at this
      have hs : bl s ≠ [] := fun e => by rw [e] at this; simp at this
      simp [hs, q]
    · rw [h2 q]
      simp [q]
  clear hb h1 h2 HC
  go_wp2
  go_ret
  exact ⟨_, rfl, HI.out, HB.out⟩

end Go.Proofs.YtkhcappjhefkjaaGreatDoor

