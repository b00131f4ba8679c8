/- impl.yieldValue: lists, forms, all (written by tools/json/gen_j18.py). -/
import Derived.Test.YtmmafhibojipjaaDoorJ17
namespace Go.Proofs.YtmmafhibojipjaaDoor
open Go.RowKit Go.Shelf
set_option linter.unusedVariables false
attribute [local go_sem] Oper.semAt_some

set_option maxRecDepth 100000 in
set_option maxHeartbeats 4000000 in
theorem yield5 {l N bb n : Nat} {w0 : World} {J Jx : List Sub → World → Prop} (hY : YS l N bb w0 J Jx) (IH : YvP l N bb w0 J Jx n) (m : Nat) (f : Bool) (t : ByteArray) (ns : List ByteArray) (kids : List Js) (A K : Option Addr) (ca kc B0 : Nat) (pre : List Sub) (W : World)
    (hh : htJ kids ≤ n) (hv : JsV w0 B0 ns kids A K) (ho : JokP (.mk 5 f t ns kids)) (hl : LimJ 1048576 (.mk 5 f t ns kids)) (hb : Below w0.heap.size w0 W) (hJ : J pre W) (hN : pre.length + (parts (.mk 5 f t ns kids)).length ≤ N) :
    CallsIn Fence.wide m Tryd.prog 53 #[.agg #[.int .i64 5, .bool f, .string t, .slice A ns.length ca, .slice K kids.length kc], .func (.yield l) #[] #[]] W (YPost w0 J Jx pre ((parts (.mk 5 f t ns kids)).map cl)) := by
  have hone := ho.one
  cases hl with
  | mk _ _ _ _ _ l1 l2 l3 l4 hl5 =>
  have hns0 : ns = [] := List.eq_nil_of_length_eq_zero (by rcases hone with h | h | h | h | h | h <;> omega)
  subst hns0
  have hpe : parts (.mk 5 f t [] kids) = (⟨#[91]⟩ : ByteArray) :: ((kidsP false [] 0 (kids.map parts)) ++ [(⟨#[93]⟩ : ByteArray)]) := by rw [parts_mk]; simp
  rw [hpe] at hN ⊢
  obtain ⟨Z, hZ⟩ : ∃ Z, Z = (kidsP false [] 0 (kids.map parts)) := ⟨_, rfl⟩
  have HLN : Hid (pre.length + (Z.length + 2) ≤ N) := by rw [← hZ] at hN; simp only [List.length_cons, List.length_append, List.length_nil] at hN; show _ ≤ _; omega
  have HLN2 : Hid ((pre ++ [cl (⟨#[91]⟩ : ByteArray)]).length + (kidsP false [] 0 (kids.map parts)).length ≤ N) := by rw [← hZ]; simp only [List.length_cons, List.length_append, List.length_nil]; show _ ≤ _; have := HLN.out; omega
  have HBX := Lib.hid (below_box (w := W) (.cells #[.int .i64 5, .bool f, .string t, .slice A (List.length ([] : List ByteArray)) ca, .slice K kids.length kc] 26))
  have HC : Hid (∀ w, Calls Tryd.prog 48 #[.agg #[.int .i64 5, .bool f, .string t, .slice A (List.length ([] : List ByteArray)) ca, .slice K kids.length kc]] w fun e w' => e = .returned (.iface 97 (.slice K kids.length kc)) ∧ Below w.heap.size w w') := fun w =>
    (valueOf_any 5 f t [] kids A K ca kc w l2 l4).mono fun e w' ⟨x, h1, h2, h3⟩ => by
      refine ⟨?_, h3⟩
      rcases h2 with ⟨_, rfl⟩ | ⟨h, _⟩
      · rw [h1]; unfold valJ; simp
      · exact absurd ⟨by unfold KindP; omega, (one_iff.1 hone).1⟩ h

  have HKC : Hid (∀ W3, (J (pre ++ [cl (⟨#[91]⟩ : ByteArray)]) W3 ∧ Below w0.heap.size w0 W3) → CallsIn Fence.wide (m - 1) Tryd.prog 65 #[.slice none 0 0, .slice K kids.length kc, .func (.yield l) #[] #[]] W3 (YPost w0 J Jx (pre ++ [cl (⟨#[91]⟩ : ByteArray)]) ((kidsP false [] 0 (kids.map parts)).map cl))) := fun W3 h => by
    have HW3 := Lib.hid h
    exact yieldKidsL hY IH kids K kc B0 (m - 1) (pre ++ [cl (⟨#[91]⟩ : ByteArray)]) W3 hh hv.k l4 ho.kids hl5 HW3.out.2 HW3.out.1 HLN2.out
  rw [← hZ]
  rw [← hZ] at HKC
  have x1 := as97_93
  have x2 := as97_94
  have x3 := as97_95
  have x4 := as97_96
  have x5 := as97
  clear hone hpe hN hZ IH ho hl5 HLN2
  have wfn : ∀ k, Fence.wide.fn k := fun _ => trivial
  have wdp : Fence.wide.depth.isSome = false := rfl
  refine callsIn_of_wp Tryd.func53 rfl trivial ?_ rfl
  simp only [Tryd.ntmps53, List.size_toArray, List.length_cons, List.length_nil, Nat.reduceAdd, Nat.reduceSub, Array.replicate_succ, Array.replicate_zero, List.push_toArray, List.append_toArray, List.nil_append, List.cons_append]
  gi_wp2_with (gi_at_call 48; refine (callsIn_wide.2 (HC.out _)).mono ?_; rintro e w2 ⟨rfl, hb2⟩)
  obtain ⟨fn, tmps, assign, body, hy, hR⟩ := hY.y (m - 1) pre (cl (⟨#[91]⟩ : ByteArray)) w2 (hY.j _ _ _ hJ (HBX.out.trans (hb2.mono HBX.out.size))) (by have := HLN.out; omega)
  rw [cl_val (by decide)] at hy
  have HB2 := Lib.hid (hb.trans ((HBX.out.trans (hb2.mono HBX.out.size)).mono hb.size))
  skip
  skip
  clear hb2 hJ
  rw [hy, Oper.uponIn_round]
  refine ⟨fun h => by simp [wdp] at h, ?_⟩
  refine hR.mono ?_
  clear hR hy
  rintro e W3 (⟨rfl, hJ3, hb3, hk3⟩ | ⟨rfl, hJ3⟩)
  rotate_left
  · gi_wp2
    all_goals (try (refine ⟨fun _ h => (by cases h), ?_⟩; gi_wp2))
    all_goals go_ret
    all_goals exact .inr ⟨rfl, [cl (⟨#[91]⟩ : ByteArray)], ⟨(Z ++ [(⟨#[93]⟩ : ByteArray)]).map cl, by simp⟩, hJ3⟩
  have HW3 : Hid (J (pre ++ [cl (⟨#[91]⟩ : ByteArray)]) W3 ∧ Below w0.heap.size w0 W3) := ⟨hJ3, HB2.out.trans hb3⟩

  clear hJ3 hb3 hk3
  gi_wp2_with (gi_at_call 65; refine (HKC.out W3 HW3.out).mono ?_; rintro e W4 (⟨rfl, hJ4, hb4⟩ | ⟨rfl, q, hq, hJ4⟩))
  rotate_left
  · have HF : Hid (YPost w0 J Jx pre (((⟨#[91]⟩ : ByteArray) :: (Z ++ [(⟨#[93]⟩ : ByteArray)])).map cl) (.returned (.bool false)) W4) := by
      obtain ⟨r, hr⟩ := hq
      refine .inr ⟨rfl, cl (⟨#[91]⟩ : ByteArray) :: q, ⟨r ++ [cl (⟨#[93]⟩ : ByteArray)], ?_⟩, by simpa only [List.append_assoc, List.cons_append, List.nil_append] using hJ4⟩
      simp only [List.map_cons, List.map_append, List.map_nil, ← hr, List.cons_append, List.append_assoc]
    clear hJ4 hq
    (try refine ⟨fun _ h => (by cases h), ?_⟩)
    gi_wp2
    all_goals (try (refine ⟨fun _ h => (by cases h), ?_⟩; gi_wp2))
    all_goals go_ret
    all_goals exact HF.out
  obtain ⟨fn5, tm5, as5, bo5, hy5, hR5⟩ := hY.y (m - 1) ((pre ++ [cl (⟨#[91]⟩ : ByteArray)]) ++ Z.map cl) (cl (⟨#[93]⟩ : ByteArray)) W4 hJ4 (by simp only [List.length_append, List.length_map, List.length_cons, List.length_nil]; have := HLN.out; omega)
  rw [cl_val (by decide)] at hy5
  rw [hy5, Oper.uponIn_round]
  refine ⟨fun h => by simp [wdp] at h, ?_⟩
  refine hR5.mono ?_
  clear hR5 hy5
  rintro e W5 (⟨rfl, hJ5, hb5, _⟩ | ⟨rfl, hJ5⟩)
  · have HF : Hid (YPost w0 J Jx pre (((⟨#[91]⟩ : ByteArray) :: (Z ++ [(⟨#[93]⟩ : ByteArray)])).map cl) (.returned (.bool true)) W5) := .inl ⟨rfl, by simpa only [List.map_cons, List.map_append, List.map_nil, List.append_assoc, List.cons_append, List.nil_append] using hJ5, hb4.trans hb5⟩
    clear hJ5 hb5 hJ4 hb4
    gi_wp2
    go_ret
    exact HF.out
  · have HF : Hid (YPost w0 J Jx pre (((⟨#[91]⟩ : ByteArray) :: (Z ++ [(⟨#[93]⟩ : ByteArray)])).map cl) (.returned (.bool false)) W5) := .inr ⟨rfl, _, List.prefix_refl _, by simpa only [List.map_cons, List.map_append, List.map_nil, List.append_assoc, List.cons_append, List.nil_append] using hJ5⟩
    clear hJ5 hJ4 hb4
    gi_wp2
    go_ret
    exact HF.out

set_option maxRecDepth 100000 in
set_option maxHeartbeats 4000000 in
theorem yield6 {l N bb n : Nat} {w0 : World} {J Jx : List Sub → World → Prop} (hY : YS l N bb w0 J Jx) (IH : YvP l N bb w0 J Jx n) (m : Nat) (f : Bool) (t : ByteArray) (ns : List ByteArray) (kids : List Js) (A K : Option Addr) (ca kc B0 : Nat) (pre : List Sub) (W : World)
    (hh : htJ kids ≤ n) (hv : JsV w0 B0 ns kids A K) (ho : JokP (.mk 6 f t ns kids)) (hl : LimJ 1048576 (.mk 6 f t ns kids)) (hb : Below w0.heap.size w0 W) (hJ : J pre W) (hN : pre.length + (parts (.mk 6 f t ns kids)).length ≤ N) :
    CallsIn Fence.wide m Tryd.prog 53 #[.agg #[.int .i64 6, .bool f, .string t, .slice A ns.length ca, .slice K kids.length kc], .func (.yield l) #[] #[]] W (YPost w0 J Jx pre ((parts (.mk 6 f t ns kids)).map cl)) := by
  have hone := ho.one
  cases hl with
  | mk _ _ _ _ _ l1 l2 l3 l4 hl5 =>
  have hpe : parts (.mk 6 f t ns kids) = (⟨#[123]⟩ : ByteArray) :: ((kidsP true ns 0 (kids.map parts)) ++ [(⟨#[125]⟩ : ByteArray)]) := by rw [parts_mk]; simp
  rw [hpe] at hN ⊢
  obtain ⟨Z, hZ⟩ : ∃ Z, Z = (kidsP true ns 0 (kids.map parts)) := ⟨_, rfl⟩
  have HLN : Hid (pre.length + (Z.length + 2) ≤ N) := by rw [← hZ] at hN; simp only [List.length_cons, List.length_append, List.length_nil] at hN; show _ ≤ _; omega
  have HLN2 : Hid ((pre ++ [cl (⟨#[123]⟩ : ByteArray)]).length + (kidsP true ns 0 (kids.map parts)).length ≤ N) := by rw [← hZ]; simp only [List.length_cons, List.length_append, List.length_nil]; show _ ≤ _; have := HLN.out; omega
  have HBX := Lib.hid (below_box (w := W) (.cells #[.int .i64 6, .bool f, .string t, .slice A ns.length ca, .slice K kids.length kc] 26))
  have HC : Hid (∀ w, Calls Tryd.prog 48 #[.agg #[.int .i64 6, .bool f, .string t, .slice A ns.length ca, .slice K kids.length kc]] w fun e w' => e = .returned (.iface 99 (.agg #[.slice A ns.length ca, .slice K kids.length kc])) ∧ Below w.heap.size w w') := fun w =>
    (valueOf_any 6 f t ns kids A K ca kc w l2 l4).mono fun e w' ⟨x, h1, h2, h3⟩ => by
      refine ⟨?_, h3⟩
      rcases h2 with ⟨_, rfl⟩ | ⟨h, _⟩
      · rw [h1]; unfold valJ; simp
      · exact absurd ⟨by unfold KindP; omega, (one_iff.1 hone).1⟩ h
  have HNL : Hid (kids.length ≤ ns.length) := by rcases hone with h | h | h | h | h | h <;> first | omega | (show _ ≤ _; omega)
  have HKC : Hid (∀ W3, (J (pre ++ [cl (⟨#[123]⟩ : ByteArray)]) W3 ∧ Below w0.heap.size w0 W3) → CallsIn Fence.wide (m - 1) Tryd.prog 65 #[.slice A ns.length ca, .slice K kids.length kc, .func (.yield l) #[] #[]] W3 (YPost w0 J Jx (pre ++ [cl (⟨#[123]⟩ : ByteArray)]) ((kidsP true ns 0 (kids.map parts)).map cl))) := fun W3 h => by
    have HW3 := Lib.hid h
    exact yieldKidsF hY IH ns A ca kids K kc B0 (m - 1) (pre ++ [cl (⟨#[123]⟩ : ByteArray)]) W3 hv.a HNL.out l2 (one_names hone) hh hv.k l4 ho.kids hl5 HW3.out.2 HW3.out.1 HLN2.out
  rw [← hZ]
  rw [← hZ] at HKC
  have x1 := as99_93
  have x2 := as99_94
  have x3 := as99_95
  have x4 := as99_96
  have x5 := as99_97
  have x6 := as99
  clear hone hpe hN hZ IH ho hl5 HLN2
  have wfn : ∀ k, Fence.wide.fn k := fun _ => trivial
  have wdp : Fence.wide.depth.isSome = false := rfl
  refine callsIn_of_wp Tryd.func53 rfl trivial ?_ rfl
  simp only [Tryd.ntmps53, List.size_toArray, List.length_cons, List.length_nil, Nat.reduceAdd, Nat.reduceSub, Array.replicate_succ, Array.replicate_zero, List.push_toArray, List.append_toArray, List.nil_append, List.cons_append]
  gi_wp2_with (gi_at_call 48; refine (callsIn_wide.2 (HC.out _)).mono ?_; rintro e w2 ⟨rfl, hb2⟩)
  obtain ⟨fn, tmps, assign, body, hy, hR⟩ := hY.y (m - 1) pre (cl (⟨#[123]⟩ : ByteArray)) (w2.alloc (.cells #[.slice A ns.length ca, .slice K kids.length kc] 99)) (hY.j _ _ _ hJ ((HBX.out.trans (hb2.mono HBX.out.size)).trans ((below_box (w := w2) (.cells #[.slice A ns.length ca, .slice K kids.length kc] 99)).mono (Nat.le_trans HBX.out.size hb2.size)))) (by have := HLN.out; omega)
  rw [cl_val (by decide)] at hy
  have HB2 := Lib.hid (hb.trans (((HBX.out.trans (hb2.mono HBX.out.size)).trans ((below_box (w := w2) (.cells #[.slice A ns.length ca, .slice K kids.length kc] 99)).mono (Nat.le_trans HBX.out.size hb2.size))).mono hb.size))
  have HOB := Lib.hid (Own.new w2 99 #[.slice A ns.length ca, .slice K kids.length kc])
  have HBB : Hid (bb < w2.heap.size) := hY.jb _ _ (hY.j _ _ _ hJ (HBX.out.trans (hb2.mono HBX.out.size)))
  clear hb2 hJ
  rw [hy, Oper.uponIn_round]
  refine ⟨fun h => by simp [wdp] at h, ?_⟩
  refine hR.mono ?_
  clear hR hy
  rintro e W3 (⟨rfl, hJ3, hb3, hk3⟩ | ⟨rfl, hJ3⟩)
  rotate_left
  · gi_wp2
    all_goals (try (refine ⟨fun _ h => (by cases h), ?_⟩; gi_wp2))
    all_goals go_ret
    all_goals exact .inr ⟨rfl, [cl (⟨#[123]⟩ : ByteArray)], ⟨(Z ++ [(⟨#[125]⟩ : ByteArray)]).map cl, by simp⟩, hJ3⟩
  have HW3 : Hid (J (pre ++ [cl (⟨#[123]⟩ : ByteArray)]) W3 ∧ Below w0.heap.size w0 W3) := ⟨hJ3, HB2.out.trans hb3⟩
  have O3 := hk3.own HOB.out (Nat.ne_of_gt HBB.out) (by decide)
  have v0 : W3.cell? ⟨w2.heap.size, 0, none⟩ = some (.slice A ns.length ca) := by rw [O3.cell]; rfl
  have v1 : W3.cell? ⟨w2.heap.size, 1, none⟩ = some (.slice K kids.length kc) := by rw [O3.cell]; rfl
  have vl := O3.lt
  clear O3
  clear hJ3 hb3 hk3
  gi_wp2_with (gi_at_call 65; refine (HKC.out W3 HW3.out).mono ?_; rintro e W4 (⟨rfl, hJ4, hb4⟩ | ⟨rfl, q, hq, hJ4⟩))
  rotate_left
  · have HF : Hid (YPost w0 J Jx pre (((⟨#[123]⟩ : ByteArray) :: (Z ++ [(⟨#[125]⟩ : ByteArray)])).map cl) (.returned (.bool false)) W4) := by
      obtain ⟨r, hr⟩ := hq
      refine .inr ⟨rfl, cl (⟨#[123]⟩ : ByteArray) :: q, ⟨r ++ [cl (⟨#[125]⟩ : ByteArray)], ?_⟩, by simpa only [List.append_assoc, List.cons_append, List.nil_append] using hJ4⟩
      simp only [List.map_cons, List.map_append, List.map_nil, ← hr, List.cons_append, List.append_assoc]
    clear hJ4 hq
    (try refine ⟨fun _ h => (by cases h), ?_⟩)
    gi_wp2
    all_goals (try (refine ⟨fun _ h => (by cases h), ?_⟩; gi_wp2))
    all_goals go_ret
    all_goals exact HF.out
  obtain ⟨fn5, tm5, as5, bo5, hy5, hR5⟩ := hY.y (m - 1) ((pre ++ [cl (⟨#[123]⟩ : ByteArray)]) ++ Z.map cl) (cl (⟨#[125]⟩ : ByteArray)) W4 hJ4 (by simp only [List.length_append, List.length_map, List.length_cons, List.length_nil]; have := HLN.out; omega)
  rw [cl_val (by decide)] at hy5
  rw [hy5, Oper.uponIn_round]
  refine ⟨fun h => by simp [wdp] at h, ?_⟩
  refine hR5.mono ?_
  clear hR5 hy5
  rintro e W5 (⟨rfl, hJ5, hb5, _⟩ | ⟨rfl, hJ5⟩)
  · have HF : Hid (YPost w0 J Jx pre (((⟨#[123]⟩ : ByteArray) :: (Z ++ [(⟨#[125]⟩ : ByteArray)])).map cl) (.returned (.bool true)) W5) := .inl ⟨rfl, by simpa only [List.map_cons, List.map_append, List.map_nil, List.append_assoc, List.cons_append, List.nil_append] using hJ5, hb4.trans hb5⟩
    clear hJ5 hb5 hJ4 hb4
    gi_wp2
    go_ret
    exact HF.out
  · have HF : Hid (YPost w0 J Jx pre (((⟨#[123]⟩ : ByteArray) :: (Z ++ [(⟨#[125]⟩ : ByteArray)])).map cl) (.returned (.bool false)) W5) := .inr ⟨rfl, _, List.prefix_refl _, by simpa only [List.map_cons, List.map_append, List.map_nil, List.append_assoc, List.cons_append, List.nil_append] using hJ5⟩
    clear hJ5 hJ4 hb4
    gi_wp2
    go_ret
    exact HF.out

theorem yieldS {l N bb n : Nat} {w0 : World} {J Jx : List Sub → World → Prop} (hY : YS l N bb w0 J Jx) (IH : YvP l N bb w0 J Jx n) : YvP l N bb w0 J Jx (n + 1) := by
  intro k f t ns kids A K ca kc B0 m pre W hh hv ho hl hb hJ hN
  have hl' := hl
  cases hl' with
  | mk _ _ _ _ _ l1 l2 l3 l4 l5 =>
  have hone := ho.one
  rcases hone with ⟨rfl, _⟩ | ⟨rfl, _⟩ | ⟨rfl, _⟩ | ⟨rfl, _⟩ | ⟨rfl, _⟩ | ⟨rfl, _⟩
  · have hp : parts (.mk 1 f t ns kids) = [nullS] := by rw [parts_mk]; simp
    rw [hp] at hN ⊢
    exact yield1 hY m f t ns kids A K ca kc pre W ho.one l2 l4 hb hJ (by simp at hN; omega)
  · have hp : parts (.mk 2 f t ns kids) = [if f = true then trueS else falseS] := by rw [parts_mk]; simp
    rw [hp] at hN ⊢
    exact yield2 hY m f t ns kids A K ca kc pre W ho.one l2 l4 hb hJ (by simp at hN; omega)
  · have hp : parts (.mk 3 f t ns kids) = [t] := by rw [parts_mk]; simp
    rw [hp] at hN ⊢
    exact yield3 hY m f t ns kids A K ca kc pre W ho.one l2 l4 hb hJ (by simp at hN; omega)
  · have hp : parts (.mk 4 f t ns kids) = [quoS t] := by rw [parts_mk]; simp
    rw [hp] at hN ⊢
    exact yield4 hY m f t ns kids A K ca kc pre W ho.one l2 l4 hb hJ (by simp at hN; omega)
  · exact yield5 hY IH m f t ns kids A K ca kc B0 pre W (by omega) hv ho hl hb hJ hN
  · exact yield6 hY IH m f t ns kids A K ca kc B0 pre W (by omega) hv ho hl hb hJ hN
theorem yield_all {l N bb : Nat} {w0 : World} {J Jx : List Sub → World → Prop} (hY : YS l N bb w0 J Jx) : ∀ n, YvP l N bb w0 J Jx n
  | 0 => by intro k f t ns kids A K ca kc B0 m pre W hh; omega
  | n + 1 => yieldS hY (yield_all hY n)

end Go.Proofs.YtmmafhibojipjaaDoor
