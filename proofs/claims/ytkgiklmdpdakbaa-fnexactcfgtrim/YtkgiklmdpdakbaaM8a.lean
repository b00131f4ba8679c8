/- copyOfProds: productions copied, bodies and all. -/
import Derived.Test.YtkgiklmdpdakbaaM7
namespace Go.Proofs.Ytkgiklmdpdakbaa
open Go.RowKit
set_option linter.unusedVariables false

def CopyPost (xs : List Pv) (w : World) (e : Ending) (w' : World) : Prop :=
  ∃ A cap zs, e = .returned (.slice A zs.length cap) ∧ zs.map Pv.p = xs.map Pv.p ∧ OG w' w.heap.size A cap zs ∧ Below w.heap.size w w'

theorem OG.low' {w : World} {base base' cap : Nat} {A : Option Addr} {xs : List Pv} (h : OG w base A cap xs) (hb : base' ≤ base) : OG w base' A cap xs := ⟨own_base h.o hb, fun i hi => own_base (h.d i hi) hb, h.ap⟩

set_option maxRecDepth 100000 in
set_option maxHeartbeats 4000000 in
theorem copyPds_any (a : Option Addr) (c : Nat) (ys : List Pv) (w : World) (hr : Row w a (pvCells ys)) (hb : Bodies w ys) (hm : ys.length ≤ 1048576) (hz : ∀ x ∈ ys, x.p.body.length ≤ 1048576) :
    Calls Try.prog 27 #[.slice a ys.length c] w (CopyPost ys w) := by
  have HZB := Lib.hid hb
  have HZ1 := Lib.hid hz
  have HC := Lib.hid (clonePds_any a c ys w hr hm)
  clear hb hz hr
  go_enter Try.func27, Try.ntmps27
  go_wp2_with fail
  refine HC.out.mono ?_
  rintro e w6 ⟨A3, cap3, rfl, ho6, hb6⟩
  have hoge4 : Hid (∀ k, OB A3 k → w.heap.size ≤ k ∧ k < w6.heap.size) := fun k hk => OB.ge ho6 hk
  have HT0 : Hid (TRS w A3 cap3 ys 0 ys w6) := ⟨rfl, rfl, fun _ _ _ _ => rfl, ho6, fun i _ h => by omega, fun i j _ _ h => by omega, hb6⟩
  clear HC ho6 hb6

  go_wp2
  go_loopw [10] (fun iv wr => ∃ k : Nat, k ≤ ys.length ∧ iv = .int .i64 k ∧ ∃ zs, Hid (TRS w A3 cap3 ys k zs wr)) (fun iv _ => ys.length - (intOf iv).toNat)
  case atStart => exact ⟨0, Nat.zero_le _, rfl, ys, HT0⟩
  case round =>
    clear HT0
    obtain ⟨k, hk, rfl, zs, HT⟩ := hrel
    by_cases hlt : k < ys.length
    · have hlt' : (k : Int) < (ys.length : Int) := by omega
      obtain ⟨g, cap', hv, hg1, hg2⟩ := own_some HT.out.o (by omega)
      injection hv with e1 _ e2
      subst e1 e2
      have hgg := (hoge4.out g rfl).1
      have hzs := HT.out.l
      obtain ⟨e0, e1⟩ := pvCells_get zs k (by omega)
      rw [HT.out.r k (by omega) hlt (Nat.le_refl _)] at e0 e1
      have c0 := own_cellN HT.out.o _ _ e0
      have c1 := own_cellN HT.out.o _ _ e1
      unfold Pv.sl at c1
      have hz := HZ1.out _ (List.getElem_mem hlt)
      have hsy := (HZB.out _ (List.getElem_mem hlt)).keep (HT.out.b.alloc HT.out.b.size (.cells #[.int .i64 ys[k].p.head, .slice ys[k].K ys[k].p.body.length ys[k].kc] 46))
      have HCL := Lib.hid (cloneSyms_any ys[k].K ys[k].kc ys[k].p.body (wr.alloc (.cells #[.int .i64 ys[k].p.head, .slice ys[k].K ys[k].p.body.length ys[k].kc] 46)) hsy.row (by omega))
      clear e0 e1 hsy
      go_wp2_with fail
      refine HCL.out.mono ?_
      rintro e w7 ⟨K', c', rfl, hon, hb⟩
      have HT2 := (HT.out.keep (below_box (.cells #[.int .i64 ys[k].p.head, .slice ys[k].K ys[k].p.body.length ys[k].kc] 46))).keep hb
      rw [World.size_alloc] at hon
      have HT3 := Lib.hid (HT2.put hlt hon (by have := HT.out.b.size; omega) (fun i hi hik b hb => by have := ((HT.out.d i hi hik).lt b hb).2; omega))
      have c1' := cell_keep hb (cell_alloc c1 _)
      have f1 : w7.frozen? ⟨g, k * 2 + 1, none⟩ = false := own_frozen HT2.o _
      have hg7 : g < w7.heap.size := by have := hb.size; simp at this; omega
      clear HT HT2 hb HCL hon c0 c1
      go_wp2
      go_roundw
      case rel => exact ⟨k + 1, by omega, by go_num, _, HT3⟩
      case measure => simp [intOf]; omega
    · have hlt' : ¬ (k : Int) < (ys.length : Int) := by omega
      have hzs := HT.out.l
      have HOG := Lib.hid (HT.out.done (by omega))
      have HB2 := Lib.hid (HT.out.b)
      have HP2 := Lib.hid HT.out.p
      have HZS := Lib.hid hzs
      clear hzs HT
      go_wp2
      refine bodyPost_ret (v := .slice A3 ys.length cap3) (by simp [results, Try.results27, go_sem]) rfl ⟨A3, cap3, zs, by rw [HZS.out], HP2.out, HOG.out, HB2.out⟩

end Go.Proofs.Ytkgiklmdpdakbaa
