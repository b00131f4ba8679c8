/- copyOfProds: productions copied, bodies and all. -/
import Derived.Test.YtafldjbmheopjaaM7
namespace Go.Proofs.Ytafldjbmheopjaa
open Go.RowKit
set_option linter.unusedVariables false

def CopyPost (xs : List Pv) (w : World) (e : Ending) (w' : World) : Prop :=
  ∃ A cap zs, e = .returned (.slice A zs.length cap) ∧ zs.map Pv.p = xs.map Pv.p ∧ OG w' w.heap.size A cap zs ∧ Below w.heap.size w w'

theorem OG.low' {w : World} {base base' cap : Nat} {A : Option Addr} {xs : List Pv} (h : OG w base A cap xs) (hb : base' ≤ base) : OG w base' A cap xs := ⟨own_base h.o hb, fun i hi => own_base (h.d i hi) hb, h.ap⟩

set_option maxRecDepth 100000 in
set_option maxHeartbeats 4000000 in
theorem copyPds_any (a : Option Addr) (c : Nat) (ys : List Pv) (w : World) (hr : Row w a (pvCells ys)) (hb : Bodies w ys) (hm : ys.length ≤ 1048576) (hz : ∀ x ∈ ys, x.p.body.length ≤ 1048576) :
    Calls Try.prog 76 #[.slice a ys.length c] w (CopyPost ys w) := by
  have HZB := Lib.hid hb
  have HZ1 := Lib.hid hz
  have HC := Lib.hid (clonePds_any a c ys w hr hm)
  clear hb hz hr
  go_enter Try.func76, Try.ntmps76
  go_wp2_with fail
  refine HC.out.mono ?_
  rintro e w6 ⟨A3, cap3, rfl, ho6, hb6⟩
  have hoge4 : Hid (∀ k, OB A3 k → w.heap.size ≤ k ∧ k < w6.heap.size) := fun k hk => OB.ge ho6 hk
  have HT0 : Hid (TRS w A3 cap3 ys 0 ys w6) := ⟨rfl, rfl, fun _ _ _ _ => rfl, ho6, fun i _ h => by omega, fun i j _ _ h => by omega, hb6⟩
  clear HC ho6 hb6

  go_wp2
  go_loopw [10] (fun iv wr => ∃ k : Nat, k ≤ ys.length ∧ iv = .int .i64 k ∧ ∃ zs, Hid (TRS w A3 cap3 ys k zs wr)) (fun iv _ => ys.length - (intOf iv).toNat)
  case atStart => exact ⟨0, Nat.zero_le _, rfl, ys, HT0⟩
  case round =>
    clear HT0
    obtain ⟨k, hk, rfl, zs, HT⟩ := hrel
    by_cases hlt : k < ys.length
    · have hlt' : (k : Int) < (ys.length : Int) := by omega
      obtain ⟨g, cap', hv, hg1, hg2⟩ := own_some HT.out.o (by omega)
      injection hv with e1 _ e2
      subst e1 e2
      have hgg := (hoge4.out g rfl).1
      have hzs := HT.out.l
      obtain ⟨e0, e1⟩ := pvCells_get zs k (by omega)
      rw [HT.out.r k (by omega) hlt (Nat.le_refl _)] at e0 e1
      have c0 := own_cellN HT.out.o _ _ e0
      have c1 := own_cellN HT.out.o _ _ e1
      unfold Pv.sl at c1
      have hz := HZ1.out _ (List.getElem_mem hlt)
      have hsy := (HZB.out _ (List.getElem_mem hlt)).keep (HT.out.b.alloc HT.out.b.size (.cells #[.int .i64 ys[k].p.head, .slice ys[k].K ys[k].p.body.length ys[k].kc] 57))
      have HCL := Lib.hid (cloneSyms_any ys[k].K ys[k].kc ys[k].p.body (wr.alloc (.cells #[.int .i64 ys[k].p.head, .slice ys[k].K ys[k].p.body.length ys[k].kc] 57)) hsy.row (by omega))
      clear e0 e1 hsy
      go_wp2_with fail
      refine HCL.out.mono ?_
      rintro e w7 ⟨K', c', rfl, hon, hb⟩
      have HT2 := (HT.out.keep (below_box (.cells #[.int .i64 ys[k].p.head, .slice ys[k].K ys[k].p.body.length ys[k].kc] 57))).keep hb
      rw [World.size_alloc] at hon
      have HT3 := Lib.hid (HT2.put hlt hon (by have := HT.out.b.size; omega) (fun i hi hik b hb => by have := ((HT.out.d i hi hik).lt b hb).2; omega))
      have c1' := cell_keep hb (cell_alloc c1 _)
      have f1 : w7.frozen? ⟨g, k * 2 + 1, none⟩ = false := own_frozen HT2.o _
      have hg7 : g < w7.heap.size := by have := hb.size; simp at this; omega
      clear HT HT2 hb HCL hon c0 c1
      go_wp2
      go_roundw
      case rel => exact ⟨k + 1, by omega, by go_num, _, HT3⟩
      case measure => simp [intOf]; omega
    · have hlt' : ¬ (k : Int) < (ys.length : Int) := by omega
      have hzs := HT.out.l
      have HOG := Lib.hid (HT.out.done (by omega))
      have HB2 := Lib.hid (HT.out.b)
      have HP2 := Lib.hid HT.out.p
      have HZS := Lib.hid hzs
      clear hzs HT
      go_wp2
      refine bodyPost_ret (v := .slice A3 ys.length cap3) (by simp [results, Try.results76, go_sem]) rfl ⟨A3, cap3, zs, by rw [HZS.out], HP2.out, HOG.out, HB2.out⟩

theorem cell_far2' {w : World} {g : Nat} {a b v : Value} {p : Addr} (hp : p.block ≠ g) (h : w.cell? p = some v) :
    ((w.setCell ⟨g, 0, none⟩ a).setCell ⟨g, 1, none⟩ b).cell? p = some v := by
  rw [World.cell?_of_block (Below.heap_setCell _ _ _ _ hp), World.cell?_of_block (Below.heap_setCell _ _ _ _ hp)]
  exact h

set_option maxRecDepth 100000 in
set_option maxHeartbeats 4000000 in
theorem implTrim_any (hd : Int) (ps : List Pd) (a : Option Addr) (c : Nat) (w : World) (hr : Pds w a ps) (hm : ps.length ≤ 1048576) (hs : Small ps) :
    Calls Try.prog 62 #[.agg #[.int .i64 hd, .slice a ps.length c]] w (TrimPost hd ps w) := by
  obtain ⟨xs, hxp, hxb, hxr⟩ := hr.pv
  have HR := Lib.hid hr
  have HS := Lib.hid hs
  have HXP := Lib.hid hxp
  have HXB := Lib.hid hxb
  have HXR := Lib.hid hxr
  have hxl : xs.length = ps.length := by rw [← hxp]; simp
  clear hr hs hxp hxb hxr
  go_enter Try.func62, Try.ntmps62
  go_wp2_with fail
  refine (implOk_any hd ps a c _ (HR.out.keep ((below_box _).alloc (by simp) _)) hm HS.out).mono ?_
  rintro e w1 ⟨rfl, hb⟩
  have hb1 : Below w.heap.size w w1 := ((below_box _).alloc (by simp) _).trans (hb.mono (by simp; omega))
  have k0 : w1.cell? ⟨w.heap.size, 0, none⟩ = some (.int .i64 hd) := cell_keep hb (by simp)
  have k1 : w1.cell? ⟨w.heap.size, 1, none⟩ = some (.slice a ps.length c) := cell_keep hb (by simp)
  have hO2 : Own w1 (w.heap.size + 1) 33 [.int .i64 0, .slice none 0 0] := by
    refine Own.keep ?_ hb
    have := Own.new (w.alloc (.cells #[.int .i64 hd, .slice a ps.length c] 33)) 33 #[.int .i64 0, .slice none 0 0]
    rw [World.size_alloc] at this
    exact this
  have kl := cell_lt k0
  simp only at kl
  clear hb
  cases hok : cfgOkB hd ps
  · have IT : Hid (IsTrim hd ps 0 []) := by show IsTrim hd ps 0 []; unfold IsTrim; rw [if_neg (by simp [hok])]; exact ⟨rfl, rfl⟩
    have z0 : w1.cell? ⟨w.heap.size + 1, 0, none⟩ = some (.int .i64 0) := by rw [hO2.cell]; rfl
    have z1 : w1.cell? ⟨w.heap.size + 1, 1, none⟩ = some (.slice none 0 0) := by rw [hO2.cell]; rfl
    have f0 := hO2.frozen 0
    have f1 := hO2.frozen 1
    have lt2 := hO2.lt
    go_wp2
    refine bodyPost_ret (v := .agg #[.int .i64 0, .slice none 0 0]) (by simp [results, Try.results62, go_sem, z0, z1]) rfl ⟨0, none, 0, [], rfl, IT.out, ⟨World.ownsRow_nil _ _ _ _, fun i h => by simp at h, fun i j h => by simp at h⟩, ?_⟩
    exact (hb1.setCell (by simp) _).setCell (by simp) _
  · have hd0 : 0 ≤ hd := by unfold cfgOkB at hok; simp at hok; omega
    obtain ⟨n, rfl⟩ : ∃ n : Nat, hd = n := ⟨hd.toNat, by omega⟩
    obtain ⟨hfit, hp4, hn0, hn2⟩ := ok_fit hok
    have HF := Lib.hid hfit
    have HOK := Lib.hid hok
    clear hfit hok hd0
    go_wp2_with fail
    refine (implLeast_any (n : Int) ps a c _ (HR.out.keep hb1) hm HS.out).mono ?_
    rintro e w2 ⟨L, A2, cap2, rfl, ho2, hIL, hb⟩
    obtain ⟨hgd, hLn⟩ := hIL.good HOK.out
    rw [hLn] at ho2 ⊢
    have hb2 : Below w.heap.size w w2 := hb1.trans (hb.mono hb1.size)
    replace k0 := cell_keep hb k0
    replace k1 := cell_keep hb k1
    replace hO2 := hO2.keep hb
    have HIL := Lib.hid hIL
    have HGD := Lib.hid hgd
    have HLN := Lib.hid hLn
    have hlw2 := cell_lt k0
    simp only at hlw2
    have lw2 := hO2.lt
    clear hb hb1 hIL hgd hLn
    have hbx : Below w.heap.size w (w2.alloc (.cells #[.slice A2 n cap2] 81)) := hb2.alloc hb2.size _
    have HCL := Lib.hid (clonePds_any a c xs (w2.alloc (.cells #[.slice A2 n cap2] 81)) (HXR.out.keep hbx) (by omega))
    rw [hxl] at HCL
    go_wp2_with fail
    refine HCL.out.mono ?_
    rintro e w3 ⟨A3, cap3, rfl, ho3, hb⟩
    have hb3 : Below w.heap.size w w3 := hbx.trans (hb.mono hbx.size)
    have lbc : w3.cell? ⟨w2.heap.size, 0, none⟩ = some (.slice A2 n cap2) := cell_keep hb (by simp)
    have ho2' := own_keep (own_keep ho2 (below_box (.cells #[.slice A2 n cap2] 81))) hb
    have lt2 : Hid (∀ p, A2 = some p → p.block < w2.heap.size) := fun p e => by subst e; exact (ho2.lt p.block rfl).2
    replace k0 := cell_keep hb (v := .int .i64 (n : Int)) (p := ⟨w.heap.size, 0, none⟩) (cell_alloc k0 _)
    replace hO2 := (hO2.alloc (.cells #[.slice A2 n cap2] 81)).keep hb
    rw [World.size_alloc] at ho3
    have hoge : Hid (∀ k, OB A3 k → w2.heap.size + 1 ≤ k ∧ k < w3.heap.size) := fun k hk => OB.ge ho3 hk
    have HA34 : Hid (Asked 72 (.pointer (some ⟨w2.heap.size, 0, none⟩)) (fun p => !termB L p) xs (OB A3) w3) := by
      intro x hx W hF
      have hp : x.p ∈ ps := by rw [← HXP.out]; exact List.mem_map_of_mem hx
      have bel : Below w.heap.size w W := hb3.trans (hF.below (fun k hk => by have := hoge.out k hk; omega) hb3.size)
      exact clos34 w2.heap.size n cap2 A2 L x.p x.K x.kc W (hF.cell lbc (fun h => by have := hoge.out _ h; simp only at this; omega)) (hF.row (own_row ho2') (fun p e h => by have := lt2.out p e; have := hoge.out _ h; omega)) HLN.out ((HXB.out x hx).keep bel) (HF.out.body hp) HGD.out hn2
    have HD1 := Lib.hid (del32_34 _ _ xs w.heap.size A3 cap3 w3 (by rw [hxl]; exact own_base ho3 (by omega)) HA34.out (by omega))
    rw [hxl] at HD1
    have hlw3 := cell_lt k0
    simp only at hlw3
    have lw3 := hO2.lt
    clear hb HCL hb2 hbx ho2 ho2' lbc k1 ho3
    go_wp2_with fail
    refine HD1.out.mono ?_
    rintro e w4 ⟨rfl, ho4, hf4⟩
    have hyp : (xs.filter (fun x => !!termB L x.p)).map Pv.p = ps.filter (termB L) := by
      have := filter_map_p xs (fun p => !!termB L p)
      rw [HXP.out] at this
      rw [this]
      congr 1
      funext p
      simp
    have hyb : Bodies w (xs.filter (fun x => !!termB L x.p)) := fun x hx => HXB.out x (List.mem_filter.1 hx).1
    generalize xs.filter (fun x => !!termB L x.p) = ys1 at *
    have hql : (ps.filter (termB L)).length = ys1.length := by rw [← hyp]; simp
    have hqm : (ps.filter (termB L)).length ≤ 400 := by have := List.length_filter_le (termB L) ps; omega
    have hfit1 : Fit n (ps.filter (termB L)) := fun p hp => HF.out p (List.mem_filter.1 hp).1
    have hb4 : Below w.heap.size w w4 := hb3.trans (hf4.below (fun k hk => by have := hoge.out k hk; omega) hb3.size)
    have hpd4 : Pds w4 A3 (ps.filter (termB L)) := by rw [← hyp]; exact row_pds (own_rowN ho4) (hyb.keep hb4)
    have HN4 := Lib.hid (needed_any n (ps.filter (termB L)) A3 cap3 w4 hpd4 hfit1 hqm hn0 hn2)
    rw [hql] at HN4
    replace k0 := hf4.cell k0 (fun h => by have := hoge.out _ h; simp only at this; omega)
    replace hO2 := hf4.own hO2 (fun h => by have := hoge.out _ h; omega)
    have hoge4 : Hid (∀ k, OB A3 k → w2.heap.size + 1 ≤ k ∧ k < w4.heap.size) := fun k hk => by have := hoge.out k hk; have := hf4.size; omega
    have hlw4 := cell_lt k0
    simp only at hlw4
    have lw4 := hO2.lt
    have hy400 : ys1.length ≤ 400 := by omega
    have HYP := Lib.hid hyp
    have HYB := Lib.hid hyb
    have HFIT := Lib.hid hfit1
    clear HD1 HA34 hoge hb3 hf4 hpd4 hyp hyb hfit1
    go_wp2_with fail
    refine HN4.out.mono ?_
    rintro e w5 ⟨g5, N, rfl, hg5, hO5, hNd, hb⟩
    have hbx : Below w4.heap.size w4 (w5.alloc (.cells #[.slice (some ⟨g5, 0, none⟩) n n] 42)) := hb.alloc hb.size _
    have hb5 : Below w.heap.size w (w5.alloc (.cells #[.slice (some ⟨g5, 0, none⟩) n n] 42)) := hb4.trans (hbx.mono hb4.size)
    have hO5' := hO5.alloc (.cells #[.slice (some ⟨g5, 0, none⟩) n n] 42)
    have nbc : (w5.alloc (.cells #[.slice (some ⟨g5, 0, none⟩) n n] 42)).cell? ⟨w5.heap.size, 0, none⟩ = some (.slice (some ⟨g5, 0, none⟩) n n) := by simp
    have ho5 := own_keep ho4 hbx
    replace k0 := cell_keep hb k0
    replace hO2 := hO2.keep hb
    have hs45 := hb.size
    have HNd := Lib.hid hNd
    have HA36 : Hid (Asked 75 (.pointer (some ⟨w5.heap.size, 0, none⟩)) (fun p => !fl N p.head) ys1 (OB A3) (w5.alloc (.cells #[.slice (some ⟨g5, 0, none⟩) n n] 42))) := by
      intro x hx W hF
      have hp : x.p ∈ ps.filter (termB L) := by rw [← HYP.out]; exact List.mem_map_of_mem hx
      exact clos36 w5.heap.size n g5 N x.p x.K x.kc W (hF.cell nbc (fun h => by have := hoge4.out _ h; simp only at this; omega)) (hF.own hO5' (fun h => by have := hoge4.out _ h; omega)) HNd.out.l (HFIT.out x.p hp).1 (HFIT.out x.p hp).2.1
    have HD2 := Lib.hid (del32_36 _ _ ys1 w.heap.size A3 cap3 (w5.alloc (.cells #[.slice (some ⟨g5, 0, none⟩) n n] 42)) ho5 HA36.out (by omega))
    have hlw5 := cell_lt k0
    simp only at hlw5
    have lw5 := hO2.lt
    clear hb HN4 hb4 hbx hO5 hO5' nbc ho4 ho5 hNd
    go_wp2_with fail
    refine HD2.out.mono ?_
    rintro e w6 ⟨rfl, ho6, hf6⟩
    have hzp : (ys1.filter (fun x => !!fl N x.p.head)).map Pv.p = (ps.filter (termB L)).filter (fun p => fl N p.head) := by
      have := filter_map_p ys1 (fun p => !!fl N p.head)
      rw [HYP.out] at this
      rw [this]
      congr 1
      funext p
      simp
    have hzb : Bodies w (ys1.filter (fun x => !!fl N x.p.head)) := fun x hx => HYB.out x (List.mem_filter.1 hx).1
    have hz160 : ∀ x ∈ ys1.filter (fun x => !!fl N x.p.head), x.p.body.length ≤ 160 := fun x hx => by
      have hp : x.p ∈ ps.filter (termB L) := by rw [← HYP.out]; exact List.mem_map_of_mem (List.mem_filter.1 hx).1
      exact (HFIT.out x.p hp).2.2.1
    have hzl : (ys1.filter (fun x => !!fl N x.p.head)).length ≤ 400 := by have := List.length_filter_le (fun (x : Pv) => !!fl N x.p.head) ys1; omega
    generalize ys1.filter (fun x => !!fl N x.p.head) = ys at *
    have IT : Hid (IsTrim (n : Int) ps (n : Int) (ys.map Pv.p)) := by
      show IsTrim _ _ _ _
      unfold IsTrim
      rw [if_pos HOK.out]
      exact ⟨rfl, L, N, HIL.out, by simpa using HNd.out, hzp⟩
    have hb6 : Below w.heap.size w w6 := hb5.trans (hf6.below (fun k hk => by have := hoge4.out k hk; omega) hb5.size)
    replace k0 := hf6.cell (cell_alloc k0 _) (fun h => by have := hoge4.out _ h; simp only at this; omega)
    replace hO2 := hf6.own (hO2.alloc _) (fun h => by have := hoge4.out _ h; omega)
    have HCY : Hid (∀ X, Below w6.heap.size w6 X → Calls Try.prog 76 #[.slice A3 ys.length cap3] X (CopyPost ys X)) := fun X hX =>
      copyPds_any A3 cap3 ys X (own_rowN (own_keep ho6 hX)) ((hzb.keep hb6).keep hX) (by omega) (fun x hx => by have := hz160 x hx; omega)
    have hlw6 := cell_lt k0
    simp only at hlw6
    have lw6 := hO2.lt
    clear HD2 HA36 hb5 ho6 hf6 hzb hz160 hzp HYP HYB HFIT
    go_wp2
    refine wp_region_held_drew (S := (fun X => X.cell? ⟨w.heap.size, 0, none⟩ = some (.int .i64 n))) (by kernel_rfl) ?_ (fun hHeld => ?_)
    · exact k0
    (first
      | (refine held_take (i := 0) (v := ?_) rfl (by kernel_rfl) (by kernel_rfl) (by kernel_rfl) (fun _ _ _ h => h) (Or.inl ⟨rfl, ?_⟩) (by assumption) ?_; rotate_left; (intro X hSw; (try dsimp only at hSw); (go_simp <;> with_reducible rfl)))
      | (refine held_take (i := 0) (v := undef) rfl (by kernel_rfl) (by kernel_rfl) (by kernel_rfl) (fun _ _ _ h => h) (Or.inr ⟨rfl, rfl⟩) (by assumption) ?_)); simp only [Act.put, List.setIfInBounds_toArray, List.set_cons_zero, List.set_cons_succ]
    (first
      | (refine held_take (i := 1) (v := ?_) rfl (by kernel_rfl) (by kernel_rfl) (by kernel_rfl) (fun _ _ _ h => h) (Or.inl ⟨rfl, ?_⟩) (by assumption) ?_; rotate_left; (intro X hSw; (try dsimp only at hSw); (go_simp <;> with_reducible rfl)))
      | (refine held_take (i := 1) (v := undef) rfl (by kernel_rfl) (by kernel_rfl) (by kernel_rfl) (fun _ _ _ h => h) (Or.inr ⟨rfl, rfl⟩) (by assumption) ?_)); simp only [Act.put, List.setIfInBounds_toArray, List.set_cons_zero, List.set_cons_succ]
    (first
      | (refine held_take (i := 2) (v := ?_) rfl (by kernel_rfl) (by kernel_rfl) (by kernel_rfl) (fun _ _ _ h => h) (Or.inl ⟨rfl, ?_⟩) (by assumption) ?_; rotate_left; (intro X hSw; (try dsimp only at hSw); (go_simp <;> with_reducible rfl)))
      | (refine held_take (i := 2) (v := undef) rfl (by kernel_rfl) (by kernel_rfl) (by kernel_rfl) (fun _ _ _ h => h) (Or.inr ⟨rfl, rfl⟩) (by assumption) ?_)); simp only [Act.put, List.setIfInBounds_toArray, List.set_cons_zero, List.set_cons_succ]
    refine wpAnyH_ready (rs := [3]) (by kernel_rfl) (by simp) ?_
    refine AllReadyH.cons rfl (fun K hK => ?_) AllReadyH.nil
    go_simp
    go_wp2_with (go_at_call 76; refine (HCY.out _ (Below.refl _ _).drew).mono ?_; rintro e w7 ⟨A4, cap4, zs, rfl, hzs, hog, hb7⟩)
    replace hb7 := (Below.refl _ _).drew.trans hb7
    replace hO2 := hO2.keep hb7
    have c7 := cell_keep hb7 k0
    have z0 : w7.cell? ⟨w.heap.size + 1, 0, none⟩ = some (.int .i64 0) := by rw [hO2.cell]; rfl
    have z1 : w7.cell? ⟨w.heap.size + 1, 1, none⟩ = some (.slice none 0 0) := by rw [hO2.cell]; rfl
    have f0 := hO2.frozen 0
    have f1 := hO2.frozen 1
    have lt2 := hO2.lt
    have klt := cell_lt c7
    simp only at klt
    have hbs : w.heap.size ≤ w6.drew.heap.size := by show w.heap.size ≤ w6.heap.size; omega
    have HOG := Lib.hid (((hog.low' hbs).far (i := 0) hO2 (by decide) (by decide) (.int .i64 (n : Int))).far (i := 1) (hO2.set_ 0 (.int .i64 (n : Int))) (by decide) (by decide) (.slice A4 zs.length cap4))
    have IT2 : Hid (IsTrim (n : Int) ps (n : Int) (zs.map Pv.p)) := by show IsTrim _ _ _ _; rw [hzs]; exact IT.out
    have HB2 := Lib.hid (hb6.trans (hb7.mono (by omega)))
    have OF0 := hO2.set_ 0 (.int .i64 (n : Int))
    have OF1 := OF0.set_ 1 (.slice A4 zs.length cap4)
    have y0 := (OF1.cell 0).trans rfl
    have y1 := (OF1.cell 1).trans rfl
    simp only [List.set_cons_zero, List.set_cons_succ, List.getElem?_cons_zero, List.getElem?_cons_succ] at y0 y1
    have c8 := cell_far2' (g := w.heap.size + 1) (a := .int .i64 (n : Int)) (b := .slice A4 zs.length cap4) (show (⟨w.heap.size, 0, none⟩ : Addr).block ≠ w.heap.size + 1 from Nat.ne_of_lt (Nat.lt_succ_self _)) c7
    clear hog hzs hb7 hb6 hO2 OF0 OF1
    refine hK.out _ _ ?_ (fun hHeld => ?_)
    · exact c7
    clear hK K
    (first
      | (refine held_take (i := 4) (v := ?_) rfl (by kernel_rfl) (by kernel_rfl) (by kernel_rfl) (fun _ _ _ h => h) (Or.inl ⟨rfl, ?_⟩) (by assumption) ?_; rotate_left; (intro X hSw; (try dsimp only at hSw); (go_simp <;> with_reducible rfl)))
      | (refine held_take (i := 4) (v := undef) rfl (by kernel_rfl) (by kernel_rfl) (by kernel_rfl) (fun _ _ _ h => h) (Or.inr ⟨rfl, rfl⟩) (by assumption) ?_)); simp only [Act.put, List.setIfInBounds_toArray, List.set_cons_zero, List.set_cons_succ]
    refine wpAnyH_ready (rs := [5]) (by kernel_rfl) (by simp) ?_
    refine AllReadyH.cons rfl (fun K hK => ?_) AllReadyH.nil
    go_simp
    refine hK.out _ _ ?_ (fun hHeld => ?_)
    · exact c8
    clear hK K
    refine wpAnyH_done (by kernel_rfl) ?_ _
    go_wp2
    refine bodyPost_ret (v := .agg #[.int .i64 (n : Int), .slice A4 zs.length cap4]) (by simp [results, Try.results62, go_sem, y0, y1]) rfl ⟨n, A4, cap4, zs, rfl, IT2.out, HOG.out, ?_⟩
    exact (HB2.out.setCell (by simp) _).setCell (by simp) _

end Go.Proofs.Ytafldjbmheopjaa
