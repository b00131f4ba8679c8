/- A value is drawn from a code: DrawJsonOk, DrawJsonWrite. (written by gen_jd9.py) -/
import Derived.Test.YtmmafhibojipjaaDoorJD8
namespace Go.Proofs.YtmmafhibojipjaaDoor
open Go.RowKit
set_option linter.unusedVariables false

/-- What a law has of a value that was drawn. -/
def DrawJ (w : World) (e : Ending) (w' : World) : Prop :=
  ∃ (k : Int) (f : Bool) (t : ByteArray) (ns : List ByteArray) (kids : List Js) (A K : Option Addr) (ca kc : Nat), e = .returned (.agg (c5 k f t A ns.length ca K kids.length kc).toArray) ∧
    JsC w' (fun b => w.heap.size ≤ b) (c5 k f t A ns.length ca K kids.length kc) (.mk k f t ns kids) ∧ LimJ 1048576 (.mk k f t ns kids) ∧ Below w.heap.size w w'

set_option maxRecDepth 100000 in
set_option maxHeartbeats 1000000 in
theorem drawJsonOk_any (C : Option Addr) (ccap : Nat) (zs : List Int) (w : World) (hrow : Row w C (byts zs)) (hz : zs.length ≤ 1048576) (hcap : zs.length ≤ ccap) (hzs : ∀ z ∈ zs, 0 ≤ z ∧ z ≤ 255) :
    Calls Tryd.prog 18 #[.slice C zs.length ccap] w (DrawJ w) := by
  obtain ⟨wa, hwa⟩ : ∃ wa, w.alloc (.cells #[.int .i64 0, .bool false, .string ⟨#[]⟩, .slice none 0 0, .slice none 0 0] 26) = wa := ⟨_, rfl⟩
  have HA := Lib.hid hwa
  have HR : Hid (Row wa C (byts zs)) := by rw [← hwa]; exact hrow.alloc _
  have HZ := Lib.hid hzs
  have HOA : Hid (Own wa w.heap.size 26 (c5 0 false ⟨#[]⟩ none 0 0 none 0 0)) := by rw [← hwa]; exact Own.new w 26 #[.int .i64 0, .bool false, .string ⟨#[]⟩, .slice none 0 0, .slice none 0 0]
  have HBA : Hid (Below w.heap.size w wa) := by rw [← hwa]; exact below_box _
  have hwl : w.heap.size < wa.heap.size := HOA.out.lt
  clear hrow hzs hwa
  go_enter Tryd.func18, Tryd.ntmps18
  go_wp2_with fail
  rw [HA.out]
  clear HA
  refine (open_any C ccap zs _ HR.out hz hcap HZ.out).mono ?_
  rintro e w1 ⟨g, rfl, hg, hrd, hb1⟩
  have hgl := hrd.lt
  have HOB := Lib.hid (HOA.out.below hb1 hwl)
  have HBB := Lib.hid (HBA.out.trans (hb1.mono (by omega)))
  have hw1 := hb1.size
  clear HOA HBA hb1
  go_wp2_with fail
  refine (drawJson_any (g + 1) g 0 w1 hrd (by omega) (by omega)).mono ?_
  rintro e w2 ⟨k, f, t, ns, kids, A, K, ca, kc, rfl, hv, hl, hrd2, hg2⟩
  have HO := own_touch HOB.out hg2 (by omega)
  have HB := Lib.hid (HBB.out.grown hg2 (by omega) (fun q hq => by injection hq with hq; omega))
  have HV := Lib.hid hv
  have HL := Lib.hid hl
  clear hv hl hrd hrd2 hg2 HOB HBB
  obtain ⟨r0, r1, r2, r3, r4⟩ := c5_cells HO
  have f0 := HO.frozen 0
  have f1 := HO.frozen 1
  have f2 := HO.frozen 2
  have f3 := HO.frozen 3
  have f4 := HO.frozen 4
  have rl := HO.lt
  have HOO := Lib.hid HO
  clear HO
  simp only [c5]
  go_wp2
  obtain ⟨q0, q1, q2, q3, q4⟩ := c5_cells (five_cells HOO.out rfl k f t A K ns.length ca kids.length kc)
  simp only [five] at q0 q1 q2 q3 q4
  have HVV := (HV.out.mv (w' := five w2 w.heap.size (.int .i64 k) (.bool f) (.string t) (.slice A ns.length ca) (.slice K kids.length kc)) fun b hb _ => five_other _ _ _ _ _ b (by omega)).mono (F' := fun b => w.heap.size ≤ b) fun b hb _ => by omega
  exact bodyPost_ret (v := .agg (c5 k f t A ns.length ca K kids.length kc).toArray) (by simp [results, Tryd.results18, go_sem, q0, q1, q2, q3, q4, c5]) rfl
    ⟨k, f, t, ns, kids, A, K, ca, kc, rfl, HVV, HL.out, ((((HB.out.setCell (by simp only; omega) _).setCell (by simp only; omega) _).setCell (by simp only; omega) _).setCell (by simp only; omega) _).setCell (by simp only; omega) _⟩

set_option maxRecDepth 100000 in
set_option maxHeartbeats 1000000 in
theorem drawJsonWrite_any (C : Option Addr) (ccap : Nat) (zs : List Int) (w : World) (hrow : Row w C (byts zs)) (hz : zs.length ≤ 1048576) (hcap : zs.length ≤ ccap) (hzs : ∀ z ∈ zs, 0 ≤ z ∧ z ≤ 255) :
    Calls Tryd.prog 11 #[.slice C zs.length ccap] w (DrawJ w) := by
  obtain ⟨wa, hwa⟩ : ∃ wa, w.alloc (.cells #[.int .i64 0, .bool false, .string ⟨#[]⟩, .slice none 0 0, .slice none 0 0] 26) = wa := ⟨_, rfl⟩
  have HA := Lib.hid hwa
  have HR : Hid (Row wa C (byts zs)) := by rw [← hwa]; exact hrow.alloc _
  have HZ := Lib.hid hzs
  have HOA : Hid (Own wa w.heap.size 26 (c5 0 false ⟨#[]⟩ none 0 0 none 0 0)) := by rw [← hwa]; exact Own.new w 26 #[.int .i64 0, .bool false, .string ⟨#[]⟩, .slice none 0 0, .slice none 0 0]
  have HBA : Hid (Below w.heap.size w wa) := by rw [← hwa]; exact below_box _
  have hwl : w.heap.size < wa.heap.size := HOA.out.lt
  clear hrow hzs hwa
  go_enter Tryd.func11, Tryd.ntmps11
  go_wp2_with fail
  rw [HA.out]
  clear HA
  refine (open_any C ccap zs _ HR.out hz hcap HZ.out).mono ?_
  rintro e w1 ⟨g, rfl, hg, hrd, hb1⟩
  have hgl := hrd.lt
  have HOB := Lib.hid (HOA.out.below hb1 hwl)
  have HBB := Lib.hid (HBA.out.trans (hb1.mono (by omega)))
  have hw1 := hb1.size
  clear HOA HBA hb1
  go_wp2_with fail
  refine (drawJson_any (g + 1) g 0 w1 hrd (by omega) (by omega)).mono ?_
  rintro e w2 ⟨k, f, t, ns, kids, A, K, ca, kc, rfl, hv, hl, hrd2, hg2⟩
  have HO := own_touch HOB.out hg2 (by omega)
  have HB := Lib.hid (HBB.out.grown hg2 (by omega) (fun q hq => by injection hq with hq; omega))
  have HV := Lib.hid hv
  have HL := Lib.hid hl
  clear hv hl hrd hrd2 hg2 HOB HBB
  obtain ⟨r0, r1, r2, r3, r4⟩ := c5_cells HO
  have f0 := HO.frozen 0
  have f1 := HO.frozen 1
  have f2 := HO.frozen 2
  have f3 := HO.frozen 3
  have f4 := HO.frozen 4
  have rl := HO.lt
  have HOO := Lib.hid HO
  clear HO
  simp only [c5]
  go_wp2
  obtain ⟨q0, q1, q2, q3, q4⟩ := c5_cells (five_cells HOO.out rfl k f t A K ns.length ca kids.length kc)
  simp only [five] at q0 q1 q2 q3 q4
  have HVV := (HV.out.mv (w' := five w2 w.heap.size (.int .i64 k) (.bool f) (.string t) (.slice A ns.length ca) (.slice K kids.length kc)) fun b hb _ => five_other _ _ _ _ _ b (by omega)).mono (F' := fun b => w.heap.size ≤ b) fun b hb _ => by omega
  exact bodyPost_ret (v := .agg (c5 k f t A ns.length ca K kids.length kc).toArray) (by simp [results, Tryd.results11, go_sem, q0, q1, q2, q3, q4, c5]) rfl
    ⟨k, f, t, ns, kids, A, K, ca, kc, rfl, HVV, HL.out, ((((HB.out.setCell (by simp only; omega) _).setCell (by simp only; omega) _).setCell (by simp only; omega) _).setCell (by simp only; omega) _).setCell (by simp only; omega) _⟩

end Go.Proofs.YtmmafhibojipjaaDoor
