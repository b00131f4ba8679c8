/- The walk of the law FnJsonDeep. -/
import Derived.Test.YtmmafhibojipjaaDoorJV
namespace Go.Proofs.YtmmafhibojipjaaDoor
open Go.RowKit
set_option linter.unusedVariables false

set_option maxRecDepth 100000 in
set_option maxHeartbeats 4000000 in
theorem jsonDeep_walk (C : Option Addr) (ccap : Nat) (zs : List Int) (w : World) (hrow : Row w C (byts zs)) (hz : zs.length ≤ maxLen) (hcap : zs.length ≤ ccap) (hzs : ∀ z ∈ zs, 0 ≤ z ∧ z ≤ 255) :
    Calls Tryd.prog 6 #[.slice C zs.length ccap] w (LawTrue w) := by
  have HR := Lib.hid hrow
  have HZ := Lib.hid hzs
  clear hrow hzs
  unfold maxLen at hz
  by_cases hbig : 1048576 < zs.length
  · have hbig' : (1048576 : Int) < (zs.length : Int) := by omega
    go_enter Tryd.func6, Tryd.ntmps6
    go_wp2
    go_ret
    exact ⟨rfl, Below.refl _ _⟩
  have hbig' : ¬ (1048576 : Int) < (zs.length : Int) := by omega
  go_enter Tryd.func6, Tryd.ntmps6
  go_wp2_with fail
  refine (drawJsonOk_any C ccap zs _ HR.out (by omega) hcap HZ.out).mono ?_
  rintro e w1 ⟨k, f, t, ns, kids, A, K, ca, kc, rfl, hv, hl, hb1⟩
  have HL := VJ.start hv hl hb1
  clear hv hl hb1
  obtain ⟨p0, p1, p2, p3, p4⟩ := HL.cells
  have pl := HL.o.lt
  have HLH := Lib.hid HL
  clear HL
  simp only [c5]
  simp only [c5] at HLH p0 p1 p2 p3 p4 pl
  go_wp2_with fail
  clear p0 p1 p2 p3 p4 pl
  generalize w1.alloc (.cells #[.int .i64 k, .bool f, .string t, .slice A ns.length ca, .slice K kids.length kc] 26) = wv at *
  refine (implOk_any k f t ns kids A K ca kc 0 wv HLH.out.v HLH.out.l HLH.out.e).mono ?_
  rintro e w3 ⟨r, rfl, hr, hb⟩
  have HL3 := Lib.hid (HLH.out.keep hb)
  have HRR := Lib.hid hr
  clear hb hr HLH
  obtain ⟨p0, p1, p2, p3, p4⟩ := HL3.out.cells
  have pl := HL3.out.o.lt
  go_wp2_with fail
  clear p0 p1 p2 p3 p4 pl
  refine (specOk_any k f t ns kids A K ca kc 0 w3 HL3.out.v HL3.out.l).mono ?_
  rintro e w4 ⟨r2, rfl, hr2, hb⟩
  have HL4 := Lib.hid (HL3.out.keep hb)
  have hrr : r2 = r := by
    have a1 := HRR.out
    cases r2 <;> cases r <;> simp_all
  subst hrr
  clear hb hr2 HL3
  cases r2
  · obtain ⟨p0, p1, p2, p3, p4⟩ := HL4.out.cells
    have pl := HL4.out.o.lt
    go_wp2_with fail
    refine (specOk_any k f t ns kids A K ca kc 0 w4 HL4.out.v HL4.out.l).mono ?_
    rintro e w5 ⟨r3, rfl, hr3, hb⟩
    have HL5 := Lib.hid (HL4.out.keep hb)
    obtain rfl : r3 = false := by
      have a1 := HRR.out
      cases r3 <;> simp_all
    clear hb hr3 p0 p1 p2 p3 p4 pl
    go_wp2
    go_ret
    exact ⟨rfl, HL5.out.b⟩
  · clear HRR
    have HH : Hid (0 + 1 ≤ (Js.mk k f t ns kids).ht) := by show _ ≤ _; rw [htJ_mk]; omega
    go_wp2
    go_loopw [5] (fun c wr => ∃ (n : Nat) (k : Int) (f : Bool) (t : ByteArray) (ns : List ByteArray) (kids : List Js) (A K : Option Addr) (ca kc : Nat), c = .int .i64 n ∧ n ≤ 5 ∧ Hid (n + 1 ≤ (Js.mk k f t ns kids).ht) ∧ Hid (VJ w w1.heap.size k f t ns kids A K ca kc wr)) (fun c _ => 6 - (intOf c).toNat)
    case atStart => exact ⟨0, k, f, t, ns, kids, A, K, ca, kc, rfl, by omega, HH, HL4⟩
    case round =>
      clear HH HL4
      obtain ⟨n, k, f, t, ns, kids, A, K, ca, kc, rfl, hn5, HH, HL⟩ := hrel
      obtain ⟨p0, p1, p2, p3, p4⟩ := HL.out.cells
      have pl := HL.out.o.lt
      go_wp2_with fail
      clear p0 p1 p2 p3 p4 pl
      refine (implOk_any k f t ns kids A K ca kc 0 wr HL.out.v HL.out.l HL.out.e).mono ?_
      rintro e w5 ⟨r, rfl, hr, hb⟩
      have HL5 := Lib.hid (HL.out.keep hb)
      clear hb HL
      cases r
      · have hn6 : (n : Int) ≤ 5 := by omega
        clear hr
        go_wp2
        go_ret
        exact ⟨rfl, HL5.out.b⟩
      · have hJ := hr.1 rfl
        have hht : (Js.mk k f t ns kids).ht ≤ 5 := hJ.1
        have hn4 : n ≤ 4 := by have := HH.out; omega
        have hn20 : (n : Int) < 20 := by omega
        have HH2 : Hid (n + 1 + 1 ≤ (Js.mk 5 false ⟨#[]⟩ [] [.mk k f t ns kids]).ht) := by
          show _ ≤ _
          rw [htJ_mk]
          have := HH.out
          simp only [htJ]
          omega
        clear hr hJ hht HH
        have HLa := HL5.out.wrap
        have HVL : Hid (w1.heap.size < w5.heap.size) := HL5.out.o.lt
        obtain ⟨p0, p1, p2, p3, p4⟩ := HL5.out.cells
        have pl := HL5.out.o.lt
        have f0 := HL5.out.o.frozen 0
        have f1 := HL5.out.o.frozen 1
        have f2 := HL5.out.o.frozen 2
        have f3 := HL5.out.o.frozen 3
        have f4 := HL5.out.o.frozen 4
        rw [five] at HLa
        rw [World.setCell_alloc_past _ _ _ _ pl, World.setCell_alloc_past _ _ _ _ (by simpa using pl), World.setCell_alloc_past _ _ _ _ (by simpa using pl), World.setCell_alloc_past _ _ _ _ (by simpa using pl), World.setCell_alloc_past _ _ _ _ (by simpa using pl)] at HLa
        simp only [c5] at HLa
        have HL6 := Lib.hid HLa
        clear HLa HL5
        go_upto_region 10 with fail
        clear p0 p1 p2 p3 p4 pl f0 f1 f2 f3 f4
        generalize (((((w5.setCell ⟨w1.heap.size, 0, none⟩ (.int .i64 5)).setCell ⟨w1.heap.size, 1, none⟩ (.bool false)).setCell ⟨w1.heap.size, 2, none⟩ (.string ⟨#[]⟩)).setCell ⟨w1.heap.size, 3, none⟩ (.slice none 0 0)).setCell ⟨w1.heap.size, 4, none⟩ (.slice (some ⟨w5.heap.size, 0, none⟩) 1 1)).alloc (.cells #[.int .i64 k, .bool f, .string t, .slice A ns.length ca, .slice K kids.length kc] 26) = wx at *
        have HL7 := Lib.hid HL6.out.drew
        clear HL6
        refine wp_region_held_drew (S := (fun X => X.cell? ⟨w1.heap.size, 0, none⟩ = some (.int .i64 5) ∧ X.cell? ⟨w1.heap.size, 1, none⟩ = some (.bool false) ∧ X.cell? ⟨w1.heap.size, 2, none⟩ = some (.string ⟨#[]⟩) ∧ X.cell? ⟨w1.heap.size, 3, none⟩ = some (.slice none 0 0) ∧ X.cell? ⟨w1.heap.size, 4, none⟩ = some (.slice (some ⟨w5.heap.size, 0, none⟩) 1 1))) (by kernel_rfl) ?_ (fun hHeld => ?_)
        · exact HL7.out.cells
        (first
          | (refine held_take (i := 0) (v := ?_) rfl (by kernel_rfl) (by kernel_rfl) (by kernel_rfl) (fun _ _ _ h => h) (Or.inl ⟨rfl, ?_⟩) (by assumption) ?_; rotate_left; (intro X hSw; (try dsimp only at hSw); (go_simp <;> with_reducible rfl)))
          | (refine held_take (i := 0) (v := undef) rfl (by kernel_rfl) (by kernel_rfl) (by kernel_rfl) (fun _ _ _ h => h) (Or.inr ⟨rfl, rfl⟩) (by assumption) ?_)); simp only [Act.put, List.setIfInBounds_toArray, List.set_cons_zero, List.set_cons_succ]
        (first
          | (refine held_take (i := 2) (v := ?_) rfl (by kernel_rfl) (by kernel_rfl) (by kernel_rfl) (fun _ _ _ h => h) (Or.inl ⟨rfl, ?_⟩) (by assumption) ?_; rotate_left; (intro X hSw; (try dsimp only at hSw); (go_simp <;> with_reducible rfl)))
          | (refine held_take (i := 2) (v := undef) rfl (by kernel_rfl) (by kernel_rfl) (by kernel_rfl) (fun _ _ _ h => h) (Or.inr ⟨rfl, rfl⟩) (by assumption) ?_)); simp only [Act.put, List.setIfInBounds_toArray, List.set_cons_zero, List.set_cons_succ]
        refine wpAnyH_ready (rs := [1]) (by kernel_rfl) (by simp) ?_
        refine AllReadyH.cons rfl (fun K hK => ?_) AllReadyH.nil
        go_simp
        refine (implOk_any 5 false ⟨#[]⟩ [] [.mk k f t ns kids] none (some ⟨w5.heap.size, 0, none⟩) 0 1 0 _ HL7.out.v HL7.out.l HL7.out.e).mono ?_
        rintro e w6 ⟨r, rfl, hr, hb⟩
        have HL8 := Lib.hid (HL7.out.keep hb)
        have HRR := Lib.hid hr
        clear hb hr hHeld
        refine hK.out _ _ ?_ (fun hHeld => ?_)
        · exact HL8.out.cells
        clear hK K
        refine wpAnyH_ready (rs := [3]) (by kernel_rfl) (by simp) ?_
        refine AllReadyH.cons rfl (fun K hK => ?_) AllReadyH.nil
        go_simp
        refine (specOk_any 5 false ⟨#[]⟩ [] [.mk k f t ns kids] none (some ⟨w5.heap.size, 0, none⟩) 0 1 0 _ HL8.out.v HL8.out.l).mono ?_
        rintro e w7 ⟨r2, rfl, hr2, hb⟩
        have HL9 := Lib.hid (HL8.out.keep hb)
        obtain rfl : r2 = r := by
          have a1 := HRR.out
          cases r2 <;> cases r <;> simp_all
        clear hb hr2 HRR HL8 HL7 hHeld
        refine hK.out _ _ ?_ (fun hHeld => ?_)
        · exact HL9.out.cells
        clear hK K
        (first
          | (refine held_take (i := 4) (v := ?_) rfl (by kernel_rfl) (by kernel_rfl) (by kernel_rfl) (fun _ _ _ h => h) (Or.inl ⟨rfl, ?_⟩) (by assumption) ?_; rotate_left; (intro X hSw; (try dsimp only at hSw); (go_simp <;> with_reducible rfl)))
          | (refine held_take (i := 4) (v := undef) rfl (by kernel_rfl) (by kernel_rfl) (by kernel_rfl) (fun _ _ _ h => h) (Or.inr ⟨rfl, rfl⟩) (by assumption) ?_)); simp only [Act.put, List.setIfInBounds_toArray, List.set_cons_zero, List.set_cons_succ]
        refine wpAnyH_done (by kernel_rfl) ?_ _
        go_wp2
        go_roundw
        case rel => exact ⟨n + 1, 5, false, ⟨#[]⟩, [], [.mk k f t ns kids], none, some ⟨w5.heap.size, 0, none⟩, 0, 1, by go_num, by omega, HH2, HL9⟩
        case measure => simp [intOf]; omega
end Go.Proofs.YtmmafhibojipjaaDoor
