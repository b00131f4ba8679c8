/- Productions of a grammar: spec.CfgOf. -/
import Derived.Test.YtkgiklmdpdakbaaZ16
import Derived.Test.YtkgiklmdpdakbaaP13
import Derived.Test.YtkgiklmdpdakbaaZP
namespace Go.Proofs.Ytkgiklmdpdakbaa
open Go.RowKit
set_option linter.unusedVariables false

/-- What is made of all rules. -/
noncomputable def mkOf (rs : List Ru) : Mk := rulesB rs (lvl rs 8) rs.length ⟨rs.length, []⟩
theorem GramP.rule {rs : List Ru} (h : GramP rs) {i : Nat} (hi : i < rs.length) : rs[i].p.ht ≤ 8 ∧ OkP rs rs[i].p := ⟨(h.2.2.1 i hi).2.2.1, (h.2.2.1 i hi).2.2.2⟩
theorem rulesB_few {rs : List Ru} (h : GramP rs) : ∀ i, i ≤ rs.length → (rulesB rs (lvl rs 8) i ⟨rs.length, []⟩).heads ≤ rs.length + 2 * nodesL ((parts rs).take i) ∧ (rulesB rs (lvl rs 8) i ⟨rs.length, []⟩).list.length ≤ 300 * nodesL ((parts rs).take i)
  | 0, _ => by simp [rulesB]
  | i + 1, hi => by
    obtain ⟨h1, h2⟩ := rulesB_few h i (by omega)
    have hr := h.rule (i := i) hi
    have := headB_few (lvl_ok rs 8) i rs[i].p (rulesB rs (lvl rs 8) i ⟨rs.length, []⟩) hr.2 (by omega)
    have e := parts_take (rs := rs) hi
    rw [rulesB_succ rs _ i _ hi, e]
    have := nodes_pos rs[i].p
    omega
theorem rulesB_room {rs : List Ru} (h : GramP rs) {i : Nat} (hi : i < rs.length) : HRoom (rulesB rs (lvl rs 8) i ⟨rs.length, []⟩) rs[i].p.nodes := by
  obtain ⟨h1, h2⟩ := rulesB_few h i (by omega)
  have e := parts_take (rs := rs) hi
  have l1 := nodesL_le (parts rs) (i + 1)
  have l2 := h.2.2.2
  have l3 := h.2.1
  exact ⟨by omega, by omega, by omega⟩
theorem mkOf_few {rs : List Ru} (h : GramP rs) : (mkOf rs).heads ≤ 1000 ∧ (mkOf rs).list.length ≤ 100000 := by
  obtain ⟨h1, h2⟩ := rulesB_few h rs.length (Nat.le_refl _)
  have l1 := nodesL_le (parts rs) rs.length
  have l2 := h.2.2.2
  have l3 := h.2.1
  unfold mkOf
  omega
theorem OG.low {w : World} {base base' cap : Nat} {A : Option Addr} {xs : List Pv} (h : OG w base A cap xs) (hb : base' ≤ base) : OG w base' A cap xs := ⟨own_base h.o hb, fun i hi => own_base (h.d i hi) hb, h.ap⟩

theorem cell_far2 {w : World} {g : Nat} {a b v : Value} {p : Addr} (hp : p.block ≠ g) (h : w.cell? p = some v) : ((w.setCell ⟨g, 0, none⟩ a).setCell ⟨g, 1, none⟩ b).cell? p = some v := by
  rw [World.cell?_of_block (Below.heap_setCell _ _ _ p.block hp), World.cell?_of_block (Below.heap_setCell _ _ _ p.block hp)]
  exact h
/-- Behind CfgOf: the productions of a grammar that is ok, if they are; else none. -/
def CfgOfPost (rs : List Ru) (w : World) (e : Ending) (w' : World) : Prop :=
  ∃ (hd : Int) (A : Option Addr) (cap : Nat) (zs : List Pv) (ok : Bool), e = .returned (.tuple #[.agg #[.int .i64 hd, .slice A zs.length cap], .bool ok]) ∧ OG w' w.heap.size A cap zs ∧ Below w.heap.size w w' ∧
    ((ok = true ∧ GramP rs ∧ hd = (mkOf rs).heads ∧ zs.map Pv.p = byHeads (mkOf rs).heads (mkOf rs).list ∧ cfgOkB hd (zs.map Pv.p) = true) ∨
     (ok = false ∧ hd = 0 ∧ zs = [] ∧ ¬ (GramP rs ∧ cfgOkB (mkOf rs).heads (byHeads (mkOf rs).heads (mkOf rs).list) = true)))

set_option maxRecDepth 100000 in
set_option maxHeartbeats 4000000 in
theorem cfgOf_any (rs : List Ru) (a : Option Addr) (c : Nat) (w : World) (hr : Rus w 0 a rs) (hrl : rs.length ≤ 1048576) (hl : LimR 1048576 rs) :
    Calls Try.prog 35 #[.agg #[.slice a rs.length c]] w (CfgOfPost rs w) := by
  have HB0 := Lib.hid ((below_box (w := w) (.cells #[.slice a rs.length c] 64)).alloc (by simp) (.cells #[.int .i64 0, .slice none 0 0] 25))
  have OG0 : Hid (Own ((w.alloc (.cells #[.slice a rs.length c] 64)).alloc (.cells #[.int .i64 0, .slice none 0 0] 25)) w.heap.size 64 [.slice a rs.length c]) := (Own.new w 64 #[.slice a rs.length c]).alloc _
  have OR0 : Hid (Own ((w.alloc (.cells #[.slice a rs.length c] 64)).alloc (.cells #[.int .i64 0, .slice none 0 0] 25)) (w.heap.size + 1) 25 [.int .i64 0, .slice none 0 0]) := by
    have h := Own.new (w.alloc (.cells #[.slice a rs.length c] 64)) 25 #[.int .i64 0, .slice none 0 0]
    rw [World.size_alloc] at h
    exact h
  have HR := Lib.hid (hr.keep HB0.out)
  have HL := Lib.hid hl
  have HGOK := Lib.hid (specGramOk_any rs a c 0 _ (hr.keep HB0.out) hrl hl)
  clear hr hl
  go_enter Try.func35, Try.ntmps35
  go_wp2_with fail
  generalize (w.alloc (.cells #[.slice a rs.length c] 64)).alloc (.cells #[.int .i64 0, .slice none 0 0] 25) = W at *
  refine HGOK.out.mono ?_
  rintro e w1 ⟨b, rfl, hb, hb1⟩
  have HB1 := Lib.hid (HB0.out.trans (hb1.mono HB0.out.size))
  have OG1 := Lib.hid (OG0.out.keep hb1)
  have OR1 := Lib.hid (OR0.out.keep hb1)
  have HR1 := Lib.hid (HR.out.keep hb1)
  have HBP := Lib.hid hb
  clear hb1 hb HGOK OG0 OR0 HR
  cases b
  · have r0 := (OR1.out.cell 0).trans rfl
    have r1 := (OR1.out.cell 1).trans rfl
    have f0 := OR1.out.frozen 0
    have f1 := OR1.out.frozen 1
    simp only [List.getElem?_cons_zero, List.getElem?_cons_succ] at r0 r1
    have lt1 := OR1.out.lt
    have OF0 := OR1.out.set_ 0 (.int .i64 0)
    have OF1 := OF0.set_ 1 (.slice none 0 0)
    have z0 := (OF0.cell 0).trans rfl
    have z1 := (OF1.cell 1).trans rfl
    simp only [List.set_cons_zero, List.set_cons_succ, List.getElem?_cons_zero, List.getElem?_cons_succ] at z0 z1
    have FIN : Hid (CfgOfPost rs w (.returned (.tuple #[.agg #[.int .i64 0, .slice none 0 0], .bool false])) ((w1.setCell ⟨w.heap.size + 1, 0, none⟩ (.int .i64 0)).setCell ⟨w.heap.size + 1, 1, none⟩ (.slice none 0 0))) :=
      ⟨0, none, 0, [], false, rfl, ⟨World.ownsRow_nil _ _ _ _, fun i h => by simp at h, fun i j h => by simp at h⟩, (HB1.out.setCell (by simp) _).setCell (by simp) _, .inr ⟨rfl, rfl, rfl, fun h => by have := HBP.out.2 h.1; cases this⟩⟩
    clear OF0 OF1
    go_wp2
    refine bodyPost_ret (v := .tuple #[.agg #[.int .i64 0, .slice none 0 0], .bool false]) (by simp [results, Try.results35, go_sem, z0, z1]) rfl ?_
    exact FIN.out
  · have HGP := Lib.hid (HBP.out.1 rfl)
    clear HBP
    have g0 := (OG1.out.cell 0).trans rfl
    simp only [List.getElem?_cons_zero] at g0
    go_wp2_with fail
    have w1lt : w1.heap.size = w1.heap.size := rfl
    have HMK0 : Hid (MK w1 w1.heap.size (.slice a rs.length c) ⟨rs.length, []⟩ none 0 [] (w1.alloc (.cells #[.slice a rs.length c, .int .i64 (rs.length : Int), .slice none 0 0] 84))) :=
      ⟨Own.new w1 84 #[.slice a rs.length c, .int .i64 (rs.length : Int), .slice none 0 0], ⟨World.ownsRow_nil _ _ _ _, fun i h => by simp at h, fun i j h => by simp at h⟩, rfl, below_box _, Nat.le_refl _⟩
    have OG2 := Lib.hid (OG1.out.alloc (.cells #[.slice a rs.length c, .int .i64 (rs.length : Int), .slice none 0 0] 84))
    have OR2 := Lib.hid (OR1.out.alloc (.cells #[.slice a rs.length c, .int .i64 (rs.length : Int), .slice none 0 0] 84))
    have hg1 := OR1.out.lt
    clear OG1 OR1 w1lt g0
    generalize w1.alloc (.cells #[.slice a rs.length c, .int .i64 (rs.length : Int), .slice none 0 0] 84) = Wm at *
    generalize hmb : w1.heap.size = mb at *
    have HMB := Lib.hid hmb
    clear hmb
    go_loopw [5] (fun iv wr => ∃ i : Nat, i ≤ rs.length ∧ iv = .int .i64 i ∧ ∃ A' c' zs, Hid (MkP w1 mb (.slice a rs.length c) [] Wm (rulesB rs (lvl rs 8) i ⟨rs.length, []⟩) A' c' zs wr)) (fun iv _ => rs.length - (intOf iv).toNat)
    case atStart => exact ⟨0, Nat.zero_le _, rfl, none, 0, [], .refl HMK0.out⟩
    case round =>
      obtain ⟨i, hi, rfl, A1, c1, zs, HMP⟩ := hrel
      have g0 := ((HMP.out.f.own HMK0.out.o OG2.out (by decide) (by decide)).cell 0).trans rfl
      simp only [List.getElem?_cons_zero] at g0
      by_cases hlt : i < rs.length
      · have hlt' : (i : Int) < (rs.length : Int) := by omega
        obtain ⟨b, off, rfl, hru⟩ := HR1.out.at_ hlt
        obtain ⟨hht, hok⟩ := HGP.out.rule hlt
        have hroom := rulesB_room HGP.out hlt
        have NXT := Lib.hid (rulesB_succ rs (lvl rs 8) i ⟨rs.length, []⟩ hlt)
        have hlm := (HL.out _ (List.getElem_mem hlt)).2
        obtain ⟨hn, hp⟩ := hru
        generalize rs[i] = r at *
        obtain ⟨nm, k, t, lo, hi', kids, mn, mx⟩ := r
        obtain ⟨PA, PB, PK, pa, pb, pc, hc, hv⟩ := hp.open_
        have BW := HMP.out.k.b
        obtain ⟨p0, p1, p2, p3, p4, p5, p6⟩ := hc
        replace p0 := cell_keep BW p0
        replace p1 := cell_keep BW p1
        replace p2 := cell_keep BW p2
        replace p3 := cell_keep BW p3
        replace p4 := cell_keep BW p4
        replace p5 := cell_keep BW p5
        replace p6 := cell_keep BW p6
        simp only at hht hok hroom hlm NXT
        rw [ht_mk] at hht
        obtain ⟨I1, I2⟩ := level_any (mb := mb) (c := c) HR1.out hrl 8
        have HC := Lib.hid (head_any (lvl_ok rs 8) I1 I2 HR1.out hrl i k t lo hi' kids mn mx PA PB PK pa pb pc _ A1 c1 ([] ++ zs) wr ⟨hok, by omega, hv, hlm⟩ hroom HMP.out.k)
        clear hp hv hht hok hroom hlm hn BW I1 I2
        go_wp2_with fail
        refine HC.out.mono ?_
        rintro e w2 ⟨rfl, A2, c2, z2, hp2⟩
        have HP2 := Lib.hid (HMP.out.trans hp2)
        rw [← NXT.out] at HP2
        clear hp2 p0 p1 p2 p3 p4 p5 p6 HC
        go_wp2
        go_roundw
        case rel => exact ⟨i + 1, by omega, by go_num, A2, c2, _, HP2⟩
        case measure => simp [intOf]; omega
      · have hlt' : ¬ (i : Int) < (rs.length : Int) := by omega
        have e : i = rs.length := by omega
        subst e
        have HMP2 : Hid (MkP w1 mb (.slice a rs.length c) [] Wm (mkOf rs) A1 c1 zs wr) := HMP
        obtain ⟨hf1, hf2⟩ := mkOf_few HGP.out
        have hOG : OG wr w1.heap.size A1 c1 zs := by have := HMP2.out.k.g; rwa [List.nil_append] at this
        have hZS : zs.map Pv.p = (mkOf rs).list := by have := HMP2.out.k.p; rwa [List.nil_append] at this
        have hzl : zs.length ≤ 100000 := by have h1 : zs.length = (zs.map Pv.p).length := by simp
                                            rw [h1, hZS]; exact hf2
        have hOM : Own wr mb 84 [.slice a rs.length c, .int .i64 (mkOf rs).heads, .slice A1 zs.length c1] := by have := HMP2.out.k.o; rwa [List.nil_append] at this
        have HRES : Hid (Own wr (w.heap.size + 1) 25 [.int .i64 0, .slice none 0 0]) := HMP2.out.f.own HMK0.out.o OR2.out (by decide) (by decide)
        have HBW : Hid (Below w.heap.size w wr) := HB1.out.trans (HMP2.out.k.b.mono HB1.out.size)
        have hb5 : ∀ x ∈ zs, x.p.body.length ≤ 1000000 := fun x hx => by
          have h1 : x.p ∈ (mkOf rs).list := by rw [← hZS]; exact List.mem_map_of_mem hx
          have := rulesB_sm HGP.out rs.length (Nat.le_refl _) x.p h1
          omega
        have HSORT := Lib.hid (fun X (hX : Below wr.heap.size wr X) => sort_any (mkOf rs).heads w1.heap.size A1 c1 zs X (hOG.keep hX) hf1 hzl hb5)
        have m1 := (hOM.cell 1).trans rfl
        have m2 := (hOM.cell 2).trans rfl
        simp only [List.getElem?_cons_zero, List.getElem?_cons_succ] at m1 m2
        have hmlt := hOM.lt
        have HZS := Lib.hid hZS
        clear HMP HMP2 HMK0 hOG hOM hZS hb5 OG2 OR2
        have HSM : Hid (∀ p ∈ (mkOf rs).list, p.body.length ≤ 3300) := rulesB_sm HGP.out rs.length (Nat.le_refl _)
        generalize hHE : (mkOf rs).heads = H at *
        have HHE := Lib.hid hHE
        generalize hLE : (mkOf rs).list = LL at *
        have HLE := Lib.hid hLE
        clear hHE hLE
        go_wp2
        clear g0
        refine wp_region_held_drew (S := (fun X => X.cell? ⟨mb, 1, none⟩ = some (.int .i64 (H : Int)) ∧ X.cell? ⟨mb, 2, none⟩ = some (.slice A1 zs.length c1))) (by kernel_rfl) ?_ (fun hHeld => ?_)
        · exact ⟨m1, m2⟩
        (first
          | (refine held_take (i := 0) (v := ?_) rfl (by kernel_rfl) (by kernel_rfl) (by kernel_rfl) (fun _ _ _ h => h) (Or.inl ⟨rfl, ?_⟩) (by assumption) ?_; rotate_left; (intro X hSw; (try dsimp only at hSw); (go_simp <;> with_reducible rfl)))
          | (refine held_take (i := 0) (v := undef) rfl (by kernel_rfl) (by kernel_rfl) (by kernel_rfl) (fun _ _ _ h => h) (Or.inr ⟨rfl, rfl⟩) (by assumption) ?_)); simp only [Act.put, List.setIfInBounds_toArray, List.set_cons_zero, List.set_cons_succ]
        (first
          | (refine held_take (i := 1) (v := ?_) rfl (by kernel_rfl) (by kernel_rfl) (by kernel_rfl) (fun _ _ _ h => h) (Or.inl ⟨rfl, ?_⟩) (by assumption) ?_; rotate_left; (intro X hSw; (try dsimp only at hSw); (go_simp <;> with_reducible rfl)))
          | (refine held_take (i := 1) (v := undef) rfl (by kernel_rfl) (by kernel_rfl) (by kernel_rfl) (fun _ _ _ h => h) (Or.inr ⟨rfl, rfl⟩) (by assumption) ?_)); simp only [Act.put, List.setIfInBounds_toArray, List.set_cons_zero, List.set_cons_succ]
        (first
          | (refine held_take (i := 2) (v := ?_) rfl (by kernel_rfl) (by kernel_rfl) (by kernel_rfl) (fun _ _ _ h => h) (Or.inl ⟨rfl, ?_⟩) (by assumption) ?_; rotate_left; (intro X hSw; (try dsimp only at hSw); (go_simp <;> with_reducible rfl)))
          | (refine held_take (i := 2) (v := undef) rfl (by kernel_rfl) (by kernel_rfl) (by kernel_rfl) (fun _ _ _ h => h) (Or.inr ⟨rfl, rfl⟩) (by assumption) ?_)); simp only [Act.put, List.setIfInBounds_toArray, List.set_cons_zero, List.set_cons_succ]
        (first
          | (refine held_take (i := 3) (v := ?_) rfl (by kernel_rfl) (by kernel_rfl) (by kernel_rfl) (fun _ _ _ h => h) (Or.inl ⟨rfl, ?_⟩) (by assumption) ?_; rotate_left; (intro X hSw; (try dsimp only at hSw); (go_simp <;> with_reducible rfl)))
          | (refine held_take (i := 3) (v := undef) rfl (by kernel_rfl) (by kernel_rfl) (by kernel_rfl) (fun _ _ _ h => h) (Or.inr ⟨rfl, rfl⟩) (by assumption) ?_)); simp only [Act.put, List.setIfInBounds_toArray, List.set_cons_zero, List.set_cons_succ]
        (first
          | (refine held_take (i := 4) (v := ?_) rfl (by kernel_rfl) (by kernel_rfl) (by kernel_rfl) (fun _ _ _ h => h) (Or.inl ⟨rfl, ?_⟩) (by assumption) ?_; rotate_left; (intro X hSw; (try dsimp only at hSw); (go_simp <;> with_reducible rfl)))
          | (refine held_take (i := 4) (v := undef) rfl (by kernel_rfl) (by kernel_rfl) (by kernel_rfl) (fun _ _ _ h => h) (Or.inr ⟨rfl, rfl⟩) (by assumption) ?_)); simp only [Act.put, List.setIfInBounds_toArray, List.set_cons_zero, List.set_cons_succ]
        (first
          | (refine held_take (i := 5) (v := ?_) rfl (by kernel_rfl) (by kernel_rfl) (by kernel_rfl) (fun _ _ _ h => h) (Or.inl ⟨rfl, ?_⟩) (by assumption) ?_; rotate_left; (intro X hSw; (try dsimp only at hSw); (go_simp <;> with_reducible rfl)))
          | (refine held_take (i := 5) (v := undef) rfl (by kernel_rfl) (by kernel_rfl) (by kernel_rfl) (fun _ _ _ h => h) (Or.inr ⟨rfl, rfl⟩) (by assumption) ?_)); simp only [Act.put, List.setIfInBounds_toArray, List.set_cons_zero, List.set_cons_succ]
        (first
          | (refine held_take (i := 6) (v := ?_) rfl (by kernel_rfl) (by kernel_rfl) (by kernel_rfl) (fun _ _ _ h => h) (Or.inl ⟨rfl, ?_⟩) (by assumption) ?_; rotate_left; (intro X hSw; (try dsimp only at hSw); (go_simp <;> with_reducible rfl)))
          | (refine held_take (i := 6) (v := undef) rfl (by kernel_rfl) (by kernel_rfl) (by kernel_rfl) (fun _ _ _ h => h) (Or.inr ⟨rfl, rfl⟩) (by assumption) ?_)); simp only [Act.put, List.setIfInBounds_toArray, List.set_cons_zero, List.set_cons_succ]
        (first
          | (refine held_take (i := 7) (v := ?_) rfl (by kernel_rfl) (by kernel_rfl) (by kernel_rfl) (fun _ _ _ h => h) (Or.inl ⟨rfl, ?_⟩) (by assumption) ?_; rotate_left; (intro X hSw; (try dsimp only at hSw); (go_simp <;> with_reducible rfl)))
          | (refine held_take (i := 7) (v := undef) rfl (by kernel_rfl) (by kernel_rfl) (by kernel_rfl) (fun _ _ _ h => h) (Or.inr ⟨rfl, rfl⟩) (by assumption) ?_)); simp only [Act.put, List.setIfInBounds_toArray, List.set_cons_zero, List.set_cons_succ]
        (first
          | (refine held_take (i := 8) (v := ?_) rfl (by kernel_rfl) (by kernel_rfl) (by kernel_rfl) (fun _ _ _ h => h) (Or.inl ⟨rfl, ?_⟩) (by assumption) ?_; rotate_left; (intro X hSw; (try dsimp only at hSw); (go_simp <;> with_reducible rfl)))
          | (refine held_take (i := 8) (v := undef) rfl (by kernel_rfl) (by kernel_rfl) (by kernel_rfl) (fun _ _ _ h => h) (Or.inr ⟨rfl, rfl⟩) (by assumption) ?_)); simp only [Act.put, List.setIfInBounds_toArray, List.set_cons_zero, List.set_cons_succ]
        (first
          | (refine held_take (i := 9) (v := ?_) rfl (by kernel_rfl) (by kernel_rfl) (by kernel_rfl) (fun _ _ _ h => h) (Or.inl ⟨rfl, ?_⟩) (by assumption) ?_; rotate_left; (intro X hSw; (try dsimp only at hSw); (go_simp <;> with_reducible rfl)))
          | (refine held_take (i := 9) (v := undef) rfl (by kernel_rfl) (by kernel_rfl) (by kernel_rfl) (fun _ _ _ h => h) (Or.inr ⟨rfl, rfl⟩) (by assumption) ?_)); simp only [Act.put, List.setIfInBounds_toArray, List.set_cons_zero, List.set_cons_succ]
        (first
          | (refine held_take (i := 10) (v := ?_) rfl (by kernel_rfl) (by kernel_rfl) (by kernel_rfl) (fun _ _ _ h => h) (Or.inl ⟨rfl, ?_⟩) (by assumption) ?_; rotate_left; (intro X hSw; (try dsimp only at hSw); (go_simp <;> with_reducible rfl)))
          | (refine held_take (i := 10) (v := undef) rfl (by kernel_rfl) (by kernel_rfl) (by kernel_rfl) (fun _ _ _ h => h) (Or.inr ⟨rfl, rfl⟩) (by assumption) ?_)); simp only [Act.put, List.setIfInBounds_toArray, List.set_cons_zero, List.set_cons_succ]
        (first
          | (refine held_take (i := 11) (v := ?_) rfl (by kernel_rfl) (by kernel_rfl) (by kernel_rfl) (fun _ _ _ h => h) (Or.inl ⟨rfl, ?_⟩) (by assumption) ?_; rotate_left; (intro X hSw; (try dsimp only at hSw); (go_simp <;> with_reducible rfl)))
          | (refine held_take (i := 11) (v := undef) rfl (by kernel_rfl) (by kernel_rfl) (by kernel_rfl) (fun _ _ _ h => h) (Or.inr ⟨rfl, rfl⟩) (by assumption) ?_)); simp only [Act.put, List.setIfInBounds_toArray, List.set_cons_zero, List.set_cons_succ]
        refine wpAnyH_ready (rs := [12, 14]) (by kernel_rfl) (by simp) ?_
        refine AllReadyH.cons rfl (fun K hK => ?_) (AllReadyH.cons rfl (fun K hK => ?_) AllReadyH.nil)
        · go_simp
          go_wp2_with (go_at_call 51; refine (HSORT.out _ (Below.refl _ _).drew).mono ?_; rintro e w3 ⟨A3, c3, ys, rfl, hog, hys, hb3⟩)
          have m1' : w3.cell? ⟨mb, 1, none⟩ = some (.int .i64 (H : Int)) := cell_keep hb3 m1
          have m2' : w3.cell? ⟨mb, 2, none⟩ = some (.slice A1 zs.length c1) := cell_keep hb3 m2
          refine hK.out _ _ ?_ (fun hHeld => ?_)
          · exact ⟨m1', m2'⟩
          clear hK K
          (first
            | (refine held_take (i := 13) (v := ?_) rfl (by kernel_rfl) (by kernel_rfl) (by kernel_rfl) (fun _ _ _ h => h) (Or.inl ⟨rfl, ?_⟩) (by assumption) ?_; rotate_left; (intro X hSw; (try dsimp only at hSw); (go_simp <;> with_reducible rfl)))
            | (refine held_take (i := 13) (v := undef) rfl (by kernel_rfl) (by kernel_rfl) (by kernel_rfl) (fun _ _ _ h => h) (Or.inr ⟨rfl, rfl⟩) (by assumption) ?_)); simp only [Act.put, List.setIfInBounds_toArray, List.set_cons_zero, List.set_cons_succ]
          have HB3 := Lib.hid (HBW.out.drew.trans (hb3.mono HBW.out.drew.size))
          have HRS3 := Lib.hid (HRES.out.drew.keep hb3)
          have HOG3 := Lib.hid (hog.low (show w.heap.size ≤ _ from HBW.out.drew.size))
          have HYS := Lib.hid hys
          have hl3 := hb3.size
          have hml3 : mb < w3.heap.size := cell_lt m1'
          clear hb3 hog hys m1 m2
          refine wpAnyH_ready (rs := [14]) (by kernel_rfl) (by simp) ?_
          refine AllReadyH.cons rfl (fun K hK => ?_) AllReadyH.nil
          go_simp
          refine hK.out _ _ ?_ (fun hHeld => ?_)
          · exact ⟨cell_alloc m1' _, cell_alloc m2' _⟩
          clear hK K
          refine wpAnyH_ready (rs := [15]) (by kernel_rfl) (by simp) ?_
          refine AllReadyH.cons rfl (fun K hK => ?_) AllReadyH.nil
          have HOC := Lib.hid (Own.new w3 25 #[.int .i64 (H : Int), .slice A3 ys.length c3])
          have HOG4 := Lib.hid (HOG3.out.keep (below_box (.cells #[.int .i64 (H : Int), .slice A3 ys.length c3] 25)))
          have HB4 := Lib.hid (HB3.out.alloc HB3.out.size (.cells #[.int .i64 (H : Int), .slice A3 ys.length c3] 25))
          have HRS4 := Lib.hid (HRS3.out.alloc (.cells #[.int .i64 (H : Int), .slice A3 ys.length c3] 25))
          have s1 := cell_alloc m1' (.cells #[.int .i64 (H : Int), .slice A3 ys.length c3] 25)
          have s2 := cell_alloc m2' (.cells #[.int .i64 (H : Int), .slice A3 ys.length c3] 25)
          clear HRS3 HOG3 HB3 m1' m2'
          go_simp
          refine hK.out _ _ ?_ (fun hHeld => ?_)
          · exact ⟨s1, s2⟩
          clear hK K s1 s2
          refine wpAnyH_done (by kernel_rfl) ?_ _
          generalize hWF : w3.alloc (.cells #[.int .i64 (H : Int), .slice A3 ys.length c3] 25) = WF at *
          have HWF := Lib.hid hWF
          clear hWF HWF
          have hyl : (ys.map Pv.p).length ≤ 1048576 := by
            rw [HYS.out]
            have h1 := byHeads_few H (zs.map Pv.p)
            simp only [List.length_map] at h1
            omega
          have HOKC := specOk_any (H : Int) (ys.map Pv.p) A3 c3 _ HOG4.out.pds hyl (fun p hp => by
            rw [HYS.out] at hp
            have h2 := byHeads_mem hp
            rw [HZS.out] at h2
            have := HSM.out p h2
            omega)
          rw [List.length_map] at HOKC
          have HOKC' := Lib.hid HOKC
          have c0' := (HOC.out.cell 0).trans rfl
          have c1' := (HOC.out.cell 1).trans rfl
          simp only [List.set_cons_zero, List.set_cons_succ, List.getElem?_cons_zero, List.getElem?_cons_succ] at c0' c1'
          clear HOKC hyl
          go_wp2_with fail
          refine HOKC'.out.mono ?_
          rintro e w5 ⟨rfl, hb5⟩
          have HB5 := Lib.hid (HB4.out.trans (hb5.mono HB4.out.size))
          have OR5 := Lib.hid (HRS4.out.keep hb5)
          have OC5 := HOC.out.keep hb5
          have HOG5 := Lib.hid (HOG4.out.keep hb5)
          have d0 := (OC5.cell 0).trans rfl
          have d1 := (OC5.cell 1).trans rfl
          have r0 := (OR5.out.cell 0).trans rfl
          have r1 := (OR5.out.cell 1).trans rfl
          have f0 := OR5.out.frozen 0
          have f1 := OR5.out.frozen 1
          have lt5 := OR5.out.lt
          simp only [List.set_cons_zero, List.set_cons_succ, List.getElem?_cons_zero, List.getElem?_cons_succ] at d0 d1 r0 r1
          clear hb5 HOKC' c0' c1' OC5 HOG4 HB4 HRS4 HOC
          obtain ⟨ok, hok⟩ : ∃ ok, cfgOkB (H : Int) (ys.map Pv.p) = ok := ⟨_, rfl⟩
          rw [hok]
          have HOK := Lib.hid hok
          clear hok
          cases ok
          · have OF0 := OR5.out.set_ 0 (.int .i64 0)
            have OF1 := OF0.set_ 1 (.slice none 0 0)
            have z0 := (OF0.cell 0).trans rfl
            have z1 := (OF1.cell 1).trans rfl
            simp only [List.set_cons_zero, List.set_cons_succ, List.getElem?_cons_zero, List.getElem?_cons_succ] at z0 z1
            have FIN : Hid (CfgOfPost rs w (.returned (.tuple #[.agg #[.int .i64 0, .slice none 0 0], .bool false])) ((w5.setCell ⟨w.heap.size + 1, 0, none⟩ (.int .i64 0)).setCell ⟨w.heap.size + 1, 1, none⟩ (.slice none 0 0))) :=
              ⟨0, none, 0, [], false, rfl, ⟨World.ownsRow_nil _ _ _ _, fun i h => by simp at h, fun i j h => by simp at h⟩, (HB5.out.setCell (by simp) _).setCell (by simp) _, .inr ⟨rfl, rfl, rfl, fun h => by
                have h1 := h.2
                rw [HHE.out, HLE.out, ← HZS.out, ← HYS.out, HOK.out] at h1
                cases h1⟩⟩
            clear OF0 OF1 d0 d1
            go_wp2
            refine bodyPost_ret (v := .tuple #[.agg #[.int .i64 0, .slice none 0 0], .bool false]) (by simp [results, Try.results35, go_sem, z0, z1]) rfl ?_
            exact FIN.out
          · have OF0 := OR5.out.set_ 0 (.int .i64 (H : Int))
            have OF1 := OF0.set_ 1 (.slice A3 ys.length c3)
            have z0 := (OF0.cell 0).trans rfl
            have z1 := (OF1.cell 1).trans rfl
            simp only [List.set_cons_zero, List.set_cons_succ, List.getElem?_cons_zero, List.getElem?_cons_succ] at z0 z1
            have HOG6 := (HOG5.out.far OR5.out (by decide) (by decide) (i := 0) (.int .i64 (H : Int))).far (OR5.out.set_ 0 (.int .i64 (H : Int))) (by decide) (by decide) (i := 1) (.slice A3 ys.length c3)
            have FIN : Hid (CfgOfPost rs w (.returned (.tuple #[.agg #[.int .i64 (H : Int), .slice A3 ys.length c3], .bool true])) ((w5.setCell ⟨w.heap.size + 1, 0, none⟩ (.int .i64 (H : Int))).setCell ⟨w.heap.size + 1, 1, none⟩ (.slice A3 ys.length c3))) :=
              ⟨H, A3, c3, ys, true, rfl, HOG6, (HB5.out.setCell (by simp) _).setCell (by simp) _, .inl ⟨rfl, HGP.out, by rw [HHE.out], by rw [HHE.out, HLE.out, ← HZS.out]; exact HYS.out, HOK.out⟩⟩
            clear OF0 OF1 HOG6
            go_wp2
            refine bodyPost_ret (v := .tuple #[.agg #[.int .i64 (H : Int), .slice A3 ys.length c3], .bool true]) (by simp [results, Try.results35, go_sem, z0, z1]) rfl ?_
            exact FIN.out
        · have hX0 := (Below.refl wr.heap.size wr).drew
          have HB3 := Lib.hid (HBW.out.drew)
          have HRS3 := Lib.hid (HRES.out.keep hX0)
          have m1' : wr.drew.cell? ⟨mb, 1, none⟩ = some (.int .i64 (H : Int)) := m1
          have m2' : wr.drew.cell? ⟨mb, 2, none⟩ = some (.slice A1 zs.length c1) := m2
          have HS0 := Lib.hid (fun X (hX : Below wr.drew.heap.size wr.drew X) => HSORT.out X (hX0.trans hX))
          have hml3 : mb < wr.drew.heap.size := cell_lt m1'
          clear m1 m2 hX0
          generalize wr.drew = X0 at HB3 HRS3 m1' m2' HS0 hml3 hK ⊢
          have OC0 := Lib.hid (Own.new X0 25 #[.int .i64 0, .slice none 0 0])
          go_simp
          refine hK.out _ _ ?_ (fun hHeld => ?_)
          · exact ⟨cell_alloc m1' _, cell_alloc m2' _⟩
          clear hK K
          have HBX := Lib.hid (below_box (w := X0) (.cells #[.int .i64 0, .slice none 0 0] 25))
          have HS1 := Lib.hid (HS0.out _ HBX.out)
          generalize X0.alloc (.cells #[.int .i64 0, .slice none 0 0] 25) = X1 at *
          refine wpAnyH_ready (rs := [12]) (by kernel_rfl) (by simp) ?_
          refine AllReadyH.cons rfl (fun K hK => ?_) AllReadyH.nil
          go_simp
          go_wp2_with (go_at_call 51; refine HS1.out.mono ?_; rintro e w3 ⟨A3, c3, ys, rfl, hog, hys, hb3⟩)
          have hb03 := HBX.out.trans (hb3.mono HBX.out.size)
          have n1 : w3.cell? ⟨mb, 1, none⟩ = some (.int .i64 (H : Int)) := cell_keep hb03 m1'
          have n2 : w3.cell? ⟨mb, 2, none⟩ = some (.slice A1 zs.length c1) := cell_keep hb03 m2'
          refine hK.out _ _ ?_ (fun hHeld => ?_)
          · exact ⟨n1, n2⟩
          clear hK K
          (first
            | (refine held_take (i := 13) (v := ?_) rfl (by kernel_rfl) (by kernel_rfl) (by kernel_rfl) (fun _ _ _ h => h) (Or.inl ⟨rfl, ?_⟩) (by assumption) ?_; rotate_left; (intro X hSw; (try dsimp only at hSw); (go_simp <;> with_reducible rfl)))
            | (refine held_take (i := 13) (v := undef) rfl (by kernel_rfl) (by kernel_rfl) (by kernel_rfl) (fun _ _ _ h => h) (Or.inr ⟨rfl, rfl⟩) (by assumption) ?_)); simp only [Act.put, List.setIfInBounds_toArray, List.set_cons_zero, List.set_cons_succ]
          have OC3 := OC0.out.keep hb3
          have q0 := (OC3.cell 0).trans rfl
          have q1 := (OC3.cell 1).trans rfl
          have qf0 := OC3.frozen 0
          have qf1 := OC3.frozen 1
          have qlt := OC3.lt
          simp only [List.getElem?_cons_zero, List.getElem?_cons_succ] at q0 q1
          have HX0S := HB3.out.size
          have HOC := Lib.hid ((OC3.set_ 0 (.int .i64 (H : Int))).set_ 1 (.slice A3 ys.length c3))
          have hog' : OG w3 w.heap.size A3 c3 ys := hog.low (by have := HBX.out.size; omega)
          have HOG4 := Lib.hid ((hog'.far OC3 (by decide) (by decide) (i := 0) (.int .i64 (H : Int))).far (OC3.set_ 0 (.int .i64 (H : Int))) (by decide) (by decide) (i := 1) (.slice A3 ys.length c3))
          have HYS := Lib.hid hys
          have hBw3 : Below w.heap.size w w3 := HB3.out.trans (hb03.mono HB3.out.size)
          have HB4 : Hid (Below w.heap.size w ((w3.setCell ⟨X0.heap.size, 0, none⟩ (.int .i64 (H : Int))).setCell ⟨X0.heap.size, 1, none⟩ (.slice A3 ys.length c3))) := (hBw3.setCell (by simpa using HX0S) _).setCell (by simpa using HX0S) _
          have hrl3 := HRS3.out.lt
          have HRS4 : Hid (Own ((w3.setCell ⟨X0.heap.size, 0, none⟩ (.int .i64 (H : Int))).setCell ⟨X0.heap.size, 1, none⟩ (.slice A3 ys.length c3)) (w.heap.size + 1) 25 [.int .i64 0, .slice none 0 0]) := ((HRS3.out.keep hb03).far (fun e => by simp only at e; omega) _).far (fun e => by simp only at e; omega) _
          have s1 := cell_far2 (g := X0.heap.size) (a := .int .i64 (H : Int)) (b := .slice A3 ys.length c3) (show (⟨mb, 1, none⟩ : Addr).block ≠ X0.heap.size from Nat.ne_of_lt hml3) n1
          have s2 := cell_far2 (g := X0.heap.size) (a := .int .i64 (H : Int)) (b := .slice A3 ys.length c3) (show (⟨mb, 2, none⟩ : Addr).block ≠ X0.heap.size from Nat.ne_of_lt hml3) n2
          clear OC3 HRS3 HB3 m1' m2' hog hog' hys hb3 hb03 hBw3 n1 n2 HBX OC0 HS1 HS0
          refine wpAnyH_ready (rs := [15]) (by kernel_rfl) (by simp) ?_
          refine AllReadyH.cons rfl (fun K hK => ?_) AllReadyH.nil
          go_simp
          refine hK.out _ _ ?_ (fun hHeld => ?_)
          · exact ⟨s1, s2⟩
          clear hK K s1 s2 q0 q1 qf0 qf1
          refine wpAnyH_done (by kernel_rfl) ?_ _
          generalize hWF : (w3.setCell ⟨X0.heap.size, 0, none⟩ (.int .i64 (H : Int))).setCell ⟨X0.heap.size, 1, none⟩ (.slice A3 ys.length c3) = WF at *
          have HWF := Lib.hid hWF
          clear hWF HWF
          have hyl : (ys.map Pv.p).length ≤ 1048576 := by
            rw [HYS.out]
            have h1 := byHeads_few H (zs.map Pv.p)
            simp only [List.length_map] at h1
            omega
          have HOKC := specOk_any (H : Int) (ys.map Pv.p) A3 c3 _ HOG4.out.pds hyl (fun p hp => by
            rw [HYS.out] at hp
            have h2 := byHeads_mem hp
            rw [HZS.out] at h2
            have := HSM.out p h2
            omega)
          rw [List.length_map] at HOKC
          have HOKC' := Lib.hid HOKC
          have c0' := (HOC.out.cell 0).trans rfl
          have c1' := (HOC.out.cell 1).trans rfl
          simp only [List.set_cons_zero, List.set_cons_succ, List.getElem?_cons_zero, List.getElem?_cons_succ] at c0' c1'
          clear HOKC hyl
          go_wp2_with fail
          refine HOKC'.out.mono ?_
          rintro e w5 ⟨rfl, hb5⟩
          have HB5 := Lib.hid (HB4.out.trans (hb5.mono HB4.out.size))
          have OR5 := Lib.hid (HRS4.out.keep hb5)
          have OC5 := HOC.out.keep hb5
          have HOG5 := Lib.hid (HOG4.out.keep hb5)
          have d0 := (OC5.cell 0).trans rfl
          have d1 := (OC5.cell 1).trans rfl
          have r0 := (OR5.out.cell 0).trans rfl
          have r1 := (OR5.out.cell 1).trans rfl
          have f0 := OR5.out.frozen 0
          have f1 := OR5.out.frozen 1
          have lt5 := OR5.out.lt
          simp only [List.set_cons_zero, List.set_cons_succ, List.getElem?_cons_zero, List.getElem?_cons_succ] at d0 d1 r0 r1
          clear hb5 HOKC' c0' c1' OC5 HOG4 HB4 HRS4 HOC
          obtain ⟨ok, hok⟩ : ∃ ok, cfgOkB (H : Int) (ys.map Pv.p) = ok := ⟨_, rfl⟩
          rw [hok]
          have HOK := Lib.hid hok
          clear hok
          cases ok
          · have OF0 := OR5.out.set_ 0 (.int .i64 0)
            have OF1 := OF0.set_ 1 (.slice none 0 0)
            have z0 := (OF0.cell 0).trans rfl
            have z1 := (OF1.cell 1).trans rfl
            simp only [List.set_cons_zero, List.set_cons_succ, List.getElem?_cons_zero, List.getElem?_cons_succ] at z0 z1
            have FIN : Hid (CfgOfPost rs w (.returned (.tuple #[.agg #[.int .i64 0, .slice none 0 0], .bool false])) ((w5.setCell ⟨w.heap.size + 1, 0, none⟩ (.int .i64 0)).setCell ⟨w.heap.size + 1, 1, none⟩ (.slice none 0 0))) :=
              ⟨0, none, 0, [], false, rfl, ⟨World.ownsRow_nil _ _ _ _, fun i h => by simp at h, fun i j h => by simp at h⟩, (HB5.out.setCell (by simp) _).setCell (by simp) _, .inr ⟨rfl, rfl, rfl, fun h => by
                have h1 := h.2
                rw [HHE.out, HLE.out, ← HZS.out, ← HYS.out, HOK.out] at h1
                cases h1⟩⟩
            clear OF0 OF1 d0 d1
            go_wp2
            refine bodyPost_ret (v := .tuple #[.agg #[.int .i64 0, .slice none 0 0], .bool false]) (by simp [results, Try.results35, go_sem, z0, z1]) rfl ?_
            exact FIN.out
          · have OF0 := OR5.out.set_ 0 (.int .i64 (H : Int))
            have OF1 := OF0.set_ 1 (.slice A3 ys.length c3)
            have z0 := (OF0.cell 0).trans rfl
            have z1 := (OF1.cell 1).trans rfl
            simp only [List.set_cons_zero, List.set_cons_succ, List.getElem?_cons_zero, List.getElem?_cons_succ] at z0 z1
            have HOG6 := (HOG5.out.far OR5.out (by decide) (by decide) (i := 0) (.int .i64 (H : Int))).far (OR5.out.set_ 0 (.int .i64 (H : Int))) (by decide) (by decide) (i := 1) (.slice A3 ys.length c3)
            have FIN : Hid (CfgOfPost rs w (.returned (.tuple #[.agg #[.int .i64 (H : Int), .slice A3 ys.length c3], .bool true])) ((w5.setCell ⟨w.heap.size + 1, 0, none⟩ (.int .i64 (H : Int))).setCell ⟨w.heap.size + 1, 1, none⟩ (.slice A3 ys.length c3))) :=
              ⟨H, A3, c3, ys, true, rfl, HOG6, (HB5.out.setCell (by simp) _).setCell (by simp) _, .inl ⟨rfl, HGP.out, by rw [HHE.out], by rw [HHE.out, HLE.out, ← HZS.out]; exact HYS.out, HOK.out⟩⟩
            clear OF0 OF1 HOG6
            go_wp2
            refine bodyPost_ret (v := .tuple #[.agg #[.int .i64 (H : Int), .slice A3 ys.length c3], .bool true]) (by simp [results, Try.results35, go_sem, z0, z1]) rfl ?_
            exact FIN.out

end Go.Proofs.Ytkgiklmdpdakbaa

