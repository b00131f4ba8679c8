/- A builder of charts that goes on from a chart: chartBuilderOf. -/
import Derived.Test.YtafldjbmheopjaaG4
import Derived.Test.YtafldjbmheopjaaG5
namespace Go.Proofs.Ytafldjbmheopjaa
open Go.RowKit
set_option linter.unusedVariables false

theorem CO.b_grown {w0 w w1 : World} {base bb bm cap k n : Nat} {A : Option Addr} {z : List Pv} {hd : Int} {uh sv : Value} {ts : List (List Sy)} {vs : List Value} {cs : List Nat} (h : CO w0 base bb bm A cap z hd uh ts k n sv vs cs w) (hg : w.grownBy w1 sv.ownBlock) : Own w1 bb 91 [.int .i64 hd, .slice A z.length cap, uh, sv, .map (some bm)] :=
  (hg.block bb h.b.lt (fun e => by
    obtain ⟨cur, hc⟩ := kind_of h.s e.symm
    have h2 : w.heap[bb]? = some (.cells _ 91 (0, 0)) := h.b
    rw [h2] at hc
    injection hc with hc
    injection hc with _ hc
    cases hc)).trans h.b

theorem CO.drew {w0 w : World} {base bb bm cap k n : Nat} {A : Option Addr} {z : List Pv} {hd : Int} {uh sv : Value} {ts : List (List Sy)} {vs : List Value} {cs : List Nat} (h : CO w0 base bb bm A cap z hd uh ts k n sv vs cs w) : CO w0 base bb bm A cap z hd uh ts k n sv vs cs w.drew := h.keep (Below.refl _ _).drew

theorem CO.bq {w0 w : World} {base bb bm cap k n : Nat} {A : Option Addr} {z : List Pv} {hd : Int} {uh sv : Value} {ts : List (List Sy)} {vs : List Value} {cs : List Nat} (h : CO w0 base bb bm A cap z hd uh ts k n sv vs cs w) : BQ w bb A cap (z.map Pv.p) :=
  ⟨by rw [List.length_map]; exact h.cell.1, h.g.pds⟩

theorem sts_of {w : World} {base sc : Nat} {S : Option Addr} {ts : List (List Sy)} {vs : List Value} (hs : w.ownsRow base 52 1 (.slice S ts.length sc) ts.length vs) (hc : ∀ j (h : j < ts.length), ∃ v, vs[j]? = some v ∧ itRow w base v ts[j]) : Sts w S ts := by
  rcases hs.2 with ⟨h0, h1⟩ | ⟨g, cp, cur, h0, h1, h2, h3, h4, h5, h6⟩
  · exact .inl (List.eq_nil_of_length_eq_zero h1)
  · injection h0 with e1 e2 e3
    subst e1
    refine .inr ⟨g, 0, rfl, fun i hi => ?_⟩
    obtain ⟨v, hv1, hv2⟩ := hc i hi
    obtain ⟨K, kc, rfl⟩ := own_form hv2
    refine ⟨K, kc, ?_, (own_rowN hv2).syms⟩
    have := own_cellN hs i _ hv1
    rw [Nat.zero_add]; exact this

/-- What a builder has stays as long as the blocks that it made do. -/
theorem CO.stay {w0 w X : World} {base bb bm cap n sc : Nat} {A S : Option Addr} {z : List Pv} {hd : Int} {uh : Value} {ts : List (List Sy)} {vs : List Value} {cs : List Nat} (h : CO w0 base bb bm A cap z hd uh ts ts.length n (.slice S ts.length sc) vs cs w) (hb0 : w0.heap.size ≤ base) (hbb : w0.heap.size ≤ bb)
    (hX : ∀ k, w0.heap.size ≤ k → k < w.heap.size → X.heap[k]? = w.heap[k]?) : BQ X bb A cap (z.map Pv.p) ∧ X.cell? ⟨bb, 3, none⟩ = some (.slice S ts.length sc) ∧ Sts X S ts := by
  have hb : Own X bb 91 _ := (hX bb hbb h.b.lt).trans h.b
  have hg : OG X w0.heap.size A cap z := ⟨row_of h.g.o (fun b cur _ hc hb => hX b hb (Array.getElem?_eq_some_iff.1 hc).1), fun i hi => row_of (h.g.d i hi) (fun b cur _ hc hb => hX b hb (Array.getElem?_eq_some_iff.1 hc).1), h.g.ap⟩
  refine ⟨⟨by rw [List.length_map, hb.cell]; rfl, hg.pds⟩, by rw [hb.cell]; rfl, sts_of (row_of h.s (fun b cur _ hc hb => hX b (by omega) (Array.getElem?_eq_some_iff.1 hc).1)) (fun j hj => ?_)⟩
  obtain ⟨v, h1, h2, _⟩ := h.c j hj hj
  exact ⟨v, h1, row_of h2 (fun b cur _ hc hb => hX b (by omega) (Array.getElem?_eq_some_iff.1 hc).1)⟩

/-- What chartBuilderOf leaves. -/
def BofPost (hd : Int) (ps : List Pd) (ts : List (List Sy)) (w : World) (e : Ending) (w' : World) : Prop :=
  ∃ hd' qs, IsTrim hd ps hd' qs ∧ Below w.heap.size w w' ∧
    (((cfgOkB hd ps && chartOkB qs ts) = false ∧ e = .returned (.tuple #[.pointer none, .bool false])) ∨
     ((cfgOkB hd ps && chartOkB qs ts) = true ∧ ∃ bb A cap S sc, e = .returned (.tuple #[.pointer (some ⟨bb, 0, none⟩), .bool true]) ∧ ∀ X, (∀ k, w.heap.size ≤ k → k < w'.heap.size → X.heap[k]? = w'.heap[k]?) → BQ X bb A cap qs ∧ X.cell? ⟨bb, 3, none⟩ = some (.slice S ts.length sc) ∧ Sts X S ts))

theorem IsTrim.bounds {hd hd' : Int} {ps qs : List Pd} (h : IsTrim hd ps hd' qs) (hok : cfgOkB hd ps = true) : ∀ p ∈ qs, ∀ s ∈ p.body, s.head = -1 ∨ (0 ≤ s.head ∧ s.head < 200) := by
  obtain ⟨e, h2⟩ := h.ok hok
  have hd1 : 1 ≤ hd ∧ hd ≤ 200 := by unfold cfgOkB at h2; simp at h2; omega
  obtain ⟨n, rfl⟩ : ∃ n : Nat, hd = n := ⟨hd.toNat, by omega⟩
  intro p hp s hs
  rcases ((ok_fit h2).1 p hp).2.2.2 s hs with h3 | h3
  · exact .inl h3
  · exact .inr ⟨h3.1, by omega⟩

set_option maxRecDepth 100000 in
set_option maxHeartbeats 8000000 in
theorem bof_any (hd : Int) (ps : List Pd) (a : Option Addr) (c : Nat) (ts : List (List Sy)) (A0 : Option Addr) (C0 : Nat) (w : World) (hr : Pds w a ps) (hm : ps.length ≤ 1048576) (hs : Small ps) (ht : Sts w A0 ts) (htm : ts.length ≤ 1048576) (hts : SmallT ts) :
    Calls Try.prog 28 #[.agg #[.int .i64 hd, .slice a ps.length c], .agg #[.slice A0 ts.length C0]] w (BofPost hd ps ts w) := by
  have hb0 : Below w.heap.size w ((w.alloc (.cells #[.int .i64 hd, .slice a ps.length c] 33)).alloc (.cells #[.slice A0 ts.length C0] 37)) := (below_box _).alloc (by simp) _
  have HR := Lib.hid (hr.keep hb0)
  have HT := Lib.hid (ht.keep hb0)
  have HS := Lib.hid hs
  have HTS := Lib.hid hts
  have k2 : ((w.alloc (.cells #[.int .i64 hd, .slice a ps.length c] 33)).alloc (.cells #[.slice A0 ts.length C0] 37)).cell? ⟨w.heap.size + 1, 0, none⟩ = some (.slice A0 ts.length C0) := by simp
  have HNEW := Lib.hid (new_any hd ps a c _ HR.out hm HS.out)
  have HB0 := Lib.hid hb0
  clear hr hs ht hts hb0 HR
  go_enter Try.func28, Try.ntmps28
  go_wp2_with fail
  generalize (w.alloc (.cells #[.int .i64 hd, .slice a ps.length c] 33)).alloc (.cells #[.slice A0 ts.length C0] 37) = W at *
  refine HNEW.out.mono ?_
  clear HNEW
  rintro e w1 (⟨hok, rfl, hb1⟩ | ⟨hok, bb, bh, bm, A, cap, z, rfl, hbb, hbm, hIT, hNC, hb1⟩)
  · have FIN : Hid (∀ w', Below w.heap.size w w' → BofPost hd ps ts w (.returned (.tuple #[.pointer none, .bool false])) w') := fun w' hb => ⟨0, [], by unfold IsTrim; rw [if_neg (by simp [hok])]; exact ⟨rfl, rfl⟩, hb, .inl ⟨by rw [hok]; rfl, rfl⟩⟩
    have hbw : Below w.heap.size w w1 := HB0.out.trans (hb1.mono HB0.out.size)
    clear hok hb1
    go_wp2
    go_quiet (fail)
    go_wp2
    refine bodyPost_ret (v := .tuple #[.pointer none, .bool false]) (by simp [results, Try.results28, go_sem]) rfl (FIN.out _ (below_drewN hbw _))
  · have HOK := Lib.hid hok
    have HIT := Lib.hid hIT
    have hz4 : z.length ≤ 400 := by have := hIT.len; rw [List.length_map] at this; exact this
    have HW0 : Hid (W.heap.size ≤ w1.heap.size) := hb1.size
    have HWB := Lib.hid hbb
    have HWM := Lib.hid hbm
    have HBB : Hid (bb < w1.heap.size) := hNC.b.lt
    have HNE : Hid (bb ≠ bm) := fun e => by
      have h1 := hNC.m
      have h2 : w1.heap[bb]? = some (.cells _ 91 (0, 0)) := hNC.b
      rw [← e, h2] at h1
      cases h1
    have hCO : CO W w1.heap.size bb bm A cap z hd (.slice (some ⟨bh, 0, none⟩) hd.toNat hd.toNat) ts 0 0 (.slice none 0 0) [] [] w1 :=
      ⟨hNC.b, hNC.g, World.ownsRow_nil _ _ _ _, fun j _ hj => by omega, GM.made hNC.m hNC.lt, by simp, Nat.le_refl _, hb1⟩
    have kb1 := hCO.cell.1
    replace k2 := cell_keep hb1 k2
    have PD1 := Lib.hid hCO.g.pds
    have ST1 := Lib.hid (HT.out.keep hb1)
    have ICL : Hid (∀ X, Pds X A (z.map Pv.p) → Sts X A0 ts → Calls Try.prog 45 #[.agg #[.slice A0 ts.length C0], .slice A z.length cap] X fun e w' => e = .returned (.bool (chartOkB (z.map Pv.p) ts)) ∧ Below X.heap.size X w') := fun X h1 h2 => by
      have := isChart_any (z.map Pv.p) A cap ts A0 C0 X h1 (by rw [List.length_map]; omega) h2 htm HTS.out
      rw [List.length_map] at this
      exact this
    clear hok hIT hb1 hNC hbb hbm
    generalize Value.slice (some ⟨bh, 0, none⟩) hd.toNat hd.toNat = uh at *
    have HCO := Lib.hid hCO
    clear hCO
    generalize hbase : w1.heap.size = base at *
    replace hbase := Lib.hid hbase
    go_wp2
    refine wp_region_held_drew (S := (fun X => X.cell? ⟨w.heap.size + 1, 0, none⟩ = some (.slice A0 ts.length C0) ∧ X.cell? ⟨bb, 1, none⟩ = some (.slice A z.length cap))) (by kernel_rfl) ?_ (fun hHeld => ?_)
    · exact ⟨k2, kb1⟩
    (first
      | (refine held_take (i := 0) (v := ?_) rfl (by kernel_rfl) (by kernel_rfl) (by kernel_rfl) (fun _ _ _ h => h) (Or.inl ⟨rfl, ?_⟩) (by assumption) ?_; rotate_left; (intro X hSw; (try dsimp only at hSw); (go_simp <;> with_reducible rfl)))
      | (refine held_take (i := 0) (v := undef) rfl (by kernel_rfl) (by kernel_rfl) (by kernel_rfl) (fun _ _ _ h => h) (Or.inr ⟨rfl, rfl⟩) (by assumption) ?_)); simp only [Act.put, List.setIfInBounds_toArray, List.set_cons_zero, List.set_cons_succ]
    (first
      | (refine held_take (i := 1) (v := ?_) rfl (by kernel_rfl) (by kernel_rfl) (by kernel_rfl) (fun _ _ _ h => h) (Or.inl ⟨rfl, ?_⟩) (by assumption) ?_; rotate_left; (intro X hSw; (try dsimp only at hSw); (go_simp <;> with_reducible rfl)))
      | (refine held_take (i := 1) (v := undef) rfl (by kernel_rfl) (by kernel_rfl) (by kernel_rfl) (fun _ _ _ h => h) (Or.inr ⟨rfl, rfl⟩) (by assumption) ?_)); simp only [Act.put, List.setIfInBounds_toArray, List.set_cons_zero, List.set_cons_succ]
    (first
      | (refine held_take (i := 2) (v := ?_) rfl (by kernel_rfl) (by kernel_rfl) (by kernel_rfl) (fun _ _ _ h => h) (Or.inl ⟨rfl, ?_⟩) (by assumption) ?_; rotate_left; (intro X hSw; (try dsimp only at hSw); (go_simp <;> with_reducible rfl)))
      | (refine held_take (i := 2) (v := undef) rfl (by kernel_rfl) (by kernel_rfl) (by kernel_rfl) (fun _ _ _ h => h) (Or.inr ⟨rfl, rfl⟩) (by assumption) ?_)); simp only [Act.put, List.setIfInBounds_toArray, List.set_cons_zero, List.set_cons_succ]
    (first
      | (refine held_take (i := 3) (v := ?_) rfl (by kernel_rfl) (by kernel_rfl) (by kernel_rfl) (fun _ _ _ h => h) (Or.inl ⟨rfl, ?_⟩) (by assumption) ?_; rotate_left; (intro X hSw; (try dsimp only at hSw); (go_simp <;> with_reducible rfl)))
      | (refine held_take (i := 3) (v := undef) rfl (by kernel_rfl) (by kernel_rfl) (by kernel_rfl) (fun _ _ _ h => h) (Or.inr ⟨rfl, rfl⟩) (by assumption) ?_)); simp only [Act.put, List.setIfInBounds_toArray, List.set_cons_zero, List.set_cons_succ]
    (first
      | (refine held_take (i := 4) (v := ?_) rfl (by kernel_rfl) (by kernel_rfl) (by kernel_rfl) (fun _ _ _ h => h) (Or.inl ⟨rfl, ?_⟩) (by assumption) ?_; rotate_left; (intro X hSw; (try dsimp only at hSw); (go_simp <;> with_reducible rfl)))
      | (refine held_take (i := 4) (v := undef) rfl (by kernel_rfl) (by kernel_rfl) (by kernel_rfl) (fun _ _ _ h => h) (Or.inr ⟨rfl, rfl⟩) (by assumption) ?_)); simp only [Act.put, List.setIfInBounds_toArray, List.set_cons_zero, List.set_cons_succ]
    (first
      | (refine held_take (i := 5) (v := ?_) rfl (by kernel_rfl) (by kernel_rfl) (by kernel_rfl) (fun _ _ _ h => h) (Or.inl ⟨rfl, ?_⟩) (by assumption) ?_; rotate_left; (intro X hSw; (try dsimp only at hSw); (go_simp <;> with_reducible rfl)))
      | (refine held_take (i := 5) (v := undef) rfl (by kernel_rfl) (by kernel_rfl) (by kernel_rfl) (fun _ _ _ h => h) (Or.inr ⟨rfl, rfl⟩) (by assumption) ?_)); simp only [Act.put, List.setIfInBounds_toArray, List.set_cons_zero, List.set_cons_succ]
    (first
      | (refine held_take (i := 6) (v := ?_) rfl (by kernel_rfl) (by kernel_rfl) (by kernel_rfl) (fun _ _ _ h => h) (Or.inl ⟨rfl, ?_⟩) (by assumption) ?_; rotate_left; (intro X hSw; (try dsimp only at hSw); (go_simp <;> with_reducible rfl)))
      | (refine held_take (i := 6) (v := undef) rfl (by kernel_rfl) (by kernel_rfl) (by kernel_rfl) (fun _ _ _ h => h) (Or.inr ⟨rfl, rfl⟩) (by assumption) ?_)); simp only [Act.put, List.setIfInBounds_toArray, List.set_cons_zero, List.set_cons_succ]
    (first
      | (refine held_take (i := 7) (v := ?_) rfl (by kernel_rfl) (by kernel_rfl) (by kernel_rfl) (fun _ _ _ h => h) (Or.inl ⟨rfl, ?_⟩) (by assumption) ?_; rotate_left; (intro X hSw; (try dsimp only at hSw); (go_simp <;> with_reducible rfl)))
      | (refine held_take (i := 7) (v := undef) rfl (by kernel_rfl) (by kernel_rfl) (by kernel_rfl) (fun _ _ _ h => h) (Or.inr ⟨rfl, rfl⟩) (by assumption) ?_)); simp only [Act.put, List.setIfInBounds_toArray, List.set_cons_zero, List.set_cons_succ]
    (first
      | (refine held_take (i := 8) (v := ?_) rfl (by kernel_rfl) (by kernel_rfl) (by kernel_rfl) (fun _ _ _ h => h) (Or.inl ⟨rfl, ?_⟩) (by assumption) ?_; rotate_left; (intro X hSw; (try dsimp only at hSw); (go_simp <;> with_reducible rfl)))
      | (refine held_take (i := 8) (v := undef) rfl (by kernel_rfl) (by kernel_rfl) (by kernel_rfl) (fun _ _ _ h => h) (Or.inr ⟨rfl, rfl⟩) (by assumption) ?_)); simp only [Act.put, List.setIfInBounds_toArray, List.set_cons_zero, List.set_cons_succ]
    refine wpAnyH_ready (rs := [9]) (by kernel_rfl) (by simp) ?_
    refine AllReadyH.cons rfl (fun K hK => ?_) AllReadyH.nil
    go_simp
    go_wp2_with (go_at_call 45; refine (ICL.out _ PD1.out.drew ST1.out.drew).mono ?_; rintro e w2 ⟨rfl, hb2⟩)
    refine hK.out _ _ ?_ (fun hHeld => ?_)
    · exact ⟨cell_keep hb2 k2, cell_keep hb2 kb1⟩
    clear hK K
    (first
      | (refine held_take (i := 10) (v := ?_) rfl (by kernel_rfl) (by kernel_rfl) (by kernel_rfl) (fun _ _ _ h => h) (Or.inl ⟨rfl, ?_⟩) (by assumption) ?_; rotate_left; (intro X hSw; (try dsimp only at hSw); (go_simp <;> with_reducible rfl)))
      | (refine held_take (i := 10) (v := undef) rfl (by kernel_rfl) (by kernel_rfl) (by kernel_rfl) (fun _ _ _ h => h) (Or.inr ⟨rfl, rfl⟩) (by assumption) ?_)); simp only [Act.put, List.setIfInBounds_toArray, List.set_cons_zero, List.set_cons_succ]
    (first
      | (refine held_take (i := 11) (v := ?_) rfl (by kernel_rfl) (by kernel_rfl) (by kernel_rfl) (fun _ _ _ h => h) (Or.inl ⟨rfl, ?_⟩) (by assumption) ?_; rotate_left; (intro X hSw; (try dsimp only at hSw); (go_simp <;> with_reducible rfl)))
      | (refine held_take (i := 11) (v := undef) rfl (by kernel_rfl) (by kernel_rfl) (by kernel_rfl) (fun _ _ _ h => h) (Or.inr ⟨rfl, rfl⟩) (by assumption) ?_)); simp only [Act.put, List.setIfInBounds_toArray, List.set_cons_zero, List.set_cons_succ]
    refine wpAnyH_done (by kernel_rfl) ?_ _
    have hCO2 := (HCO.out.drew).keep hb2
    cases hch : chartOkB (z.map Pv.p) ts
    · have FIN : Hid (BofPost hd ps ts w (.returned (.tuple #[.pointer none, .bool false])) w2) := ⟨hd, _, HIT.out, HB0.out.trans (hCO2.bl.mono HB0.out.size), .inl ⟨by rw [hch]; simp, rfl⟩⟩
      clear hHeld hb2 hCO2 hch
      go_wp2
      refine bodyPost_ret (v := .tuple #[.pointer none, .bool false]) (by simp [results, Try.results28, go_sem]) rfl FIN.out
    · have HCH := Lib.hid hch
      have ht81 : ts.length ≤ 81 := by unfold chartOkB at hch; simp at hch; omega
      replace k2 := cell_keep hb2 k2
      obtain ⟨i0, hi0, hz0, hz1, hz2⟩ := info_parts info53
      have HI := Lib.hid (And.intro hi0 (And.intro hz0 (And.intro hz1 hz2)))
      clear hi0 hz0 hz1 hz2 hHeld hb2 hch kb1 PD1 ST1 ICL HCO
      go_wp2
      clear k2
      go_loopw [34] (fun i wr => ∃ k : Nat, k ≤ ts.length ∧ i = .int .i64 k ∧ ∃ n sv vs cs, n ≤ k * 1048576 ∧ CO W base bb bm A cap z hd uh ts k n sv vs cs wr) (fun i _ => ts.length - (intOf i).toNat)
      case atStart => exact ⟨0, Nat.zero_le _, rfl, _, _, _, _, Nat.zero_le _, hCO2⟩
      case round =>
        clear hCO2
        obtain ⟨k, hk, rfl, n, sv, vs, cs, hnk, hCO⟩ := hrel
        by_cases hlt : k < ts.length
        · obtain ⟨b, off, rfl, K, kc, c0W, hnW⟩ := HT.out.at_ hlt
          have c0 := cell_keep hCO.bl c0W
          have hn := hnW.keep hCO.bl
          have hlt' : (k : Int) < (ts.length : Int) := by omega
          have hsm := HTS.out _ (List.getElem_mem hlt)
          have HITM : Hid (∀ x ∈ ts[k], itemOkB (z.map Pv.p) k x = true) := chart_items HCH.out hlt
          have HTK : Hid (∀ X, Below W.heap.size W X → Syms X K ts[k]) := fun X hX => hnW.keep hX
          clear c0W hnW
          obtain ⟨t, htk⟩ : ∃ t, ts[k] = t := ⟨_, rfl⟩
          rw [htk] at c0 hn hsm HITM HTK
          have CLN := Lib.hid (cloneIts_any K kc t wr.drew (hn.drew).row hsm)
          have hCOd := hCO.drew
          clear hn hCO
          go_wp2_with fail
          refine wp_region_held_drew (S := fun _ => True) (by kernel_rfl) trivial (fun hHeld => ?_)
          (first
            | (refine held_take (i := 0) (v := ?_) rfl (by kernel_rfl) (by kernel_rfl) (by kernel_rfl) (fun _ _ _ h => h) (Or.inl ⟨rfl, ?_⟩) (by assumption) ?_; rotate_left; (intro X hSw; (try dsimp only at hSw); (go_simp <;> with_reducible rfl)))
            | (refine held_take (i := 0) (v := undef) rfl (by kernel_rfl) (by kernel_rfl) (by kernel_rfl) (fun _ _ _ h => h) (Or.inr ⟨rfl, rfl⟩) (by assumption) ?_)); simp only [Act.put, List.setIfInBounds_toArray, List.set_cons_zero, List.set_cons_succ]
          (first
            | (refine held_take (i := 1) (v := ?_) rfl (by kernel_rfl) (by kernel_rfl) (by kernel_rfl) (fun _ _ _ h => h) (Or.inl ⟨rfl, ?_⟩) (by assumption) ?_; rotate_left; (intro X hSw; (try dsimp only at hSw); (go_simp <;> with_reducible rfl)))
            | (refine held_take (i := 1) (v := undef) rfl (by kernel_rfl) (by kernel_rfl) (by kernel_rfl) (fun _ _ _ h => h) (Or.inr ⟨rfl, rfl⟩) (by assumption) ?_)); simp only [Act.put, List.setIfInBounds_toArray, List.set_cons_zero, List.set_cons_succ]
          (first
            | (refine held_take (i := 2) (v := ?_) rfl (by kernel_rfl) (by kernel_rfl) (by kernel_rfl) (fun _ _ _ h => h) (Or.inl ⟨rfl, ?_⟩) (by assumption) ?_; rotate_left; (intro X hSw; (try dsimp only at hSw); (go_simp <;> with_reducible rfl)))
            | (refine held_take (i := 2) (v := undef) rfl (by kernel_rfl) (by kernel_rfl) (by kernel_rfl) (fun _ _ _ h => h) (Or.inr ⟨rfl, rfl⟩) (by assumption) ?_)); simp only [Act.put, List.setIfInBounds_toArray, List.set_cons_zero, List.set_cons_succ]
          (first
            | (refine held_take (i := 3) (v := ?_) rfl (by kernel_rfl) (by kernel_rfl) (by kernel_rfl) (fun _ _ _ h => h) (Or.inl ⟨rfl, ?_⟩) (by assumption) ?_; rotate_left; (intro X hSw; (try dsimp only at hSw); (go_simp <;> with_reducible rfl)))
            | (refine held_take (i := 3) (v := undef) rfl (by kernel_rfl) (by kernel_rfl) (by kernel_rfl) (fun _ _ _ h => h) (Or.inr ⟨rfl, rfl⟩) (by assumption) ?_)); simp only [Act.put, List.setIfInBounds_toArray, List.set_cons_zero, List.set_cons_succ]
          (first
            | (refine held_take (i := 5) (v := ?_) rfl (by kernel_rfl) (by kernel_rfl) (by kernel_rfl) (fun _ _ _ h => h) (Or.inl ⟨rfl, ?_⟩) (by assumption) ?_; rotate_left; (intro X hSw; (try dsimp only at hSw); (go_simp <;> with_reducible rfl)))
            | (refine held_take (i := 5) (v := undef) rfl (by kernel_rfl) (by kernel_rfl) (by kernel_rfl) (fun _ _ _ h => h) (Or.inr ⟨rfl, rfl⟩) (by assumption) ?_)); simp only [Act.put, List.setIfInBounds_toArray, List.set_cons_zero, List.set_cons_succ]
          refine wpAnyH_ready (rs := [4, 6]) (by kernel_rfl) (by simp) ?_
          refine AllReadyH.cons rfl (fun K hK => ?_) (AllReadyH.cons rfl (fun K hK => ?_) AllReadyH.nil)
          · have l3 := hCOd.cell.2.1
            go_simp
            refine hK.out _ _ trivial (fun hHeld => ?_)
            clear hK K l3
            refine wpAnyH_ready (rs := [6]) (by kernel_rfl) (by simp) ?_
            refine AllReadyH.cons rfl (fun K hK => ?_) AllReadyH.nil
            go_simp
            go_wp2_with (go_at_call 46; refine (CLN.out).mono ?_; rintro e X1 ⟨CA, ccap, rfl, hcr, hb1⟩)
            refine hK.out _ _ trivial (fun hHeld => ?_)
            clear hK K
            have hCO1 := hCOd.keep hb1
            refine wpAnyH_ready (rs := [7]) (by kernel_rfl) (by simp) ?_
            refine AllReadyH.cons rfl (fun K hK => ?_) AllReadyH.nil
            go_simp
            refine hK.out _ _ trivial (fun hHeld => ?_)
            clear hK K
            have hbx : Below X1.heap.size X1 (X1.alloc (.cells #[.slice CA t.length ccap] 52)) := below_box _
            have hCO2 := hCO1.keep hbx
            have hcv : itRow (X1.alloc (.cells #[.slice CA t.length ccap] 52)) base (.slice CA t.length ccap) t := own_keep (own_base hcr hCOd.bs) hbx
            have hnw := cell_one_new X1 (.slice CA t.length ccap) 52
            have hszX : X1.heap.size < (X1.alloc (.cells #[.slice CA t.length ccap] 52)).heap.size := by simp
            have hqb : ∀ b, (Value.slice CA t.length ccap).ownBlock = some b → b = ((Value.slice CA t.length ccap).ownBlock).getD wr.heap.size ∧ wr.heap.size ≤ b ∧ b < X1.heap.size := fun b hb => ⟨by rw [hb]; rfl, hcr.lt b hb⟩
            generalize X1.alloc (.cells #[.slice CA t.length ccap] 52) = X2 at *
            have hq1 : wr.heap.size ≤ ((Value.slice CA t.length ccap).ownBlock).getD wr.heap.size := by
              cases hob : (Value.slice CA t.length ccap).ownBlock with
              | none => exact Nat.le_refl _
              | some b => exact (hqb b hob).2.1
            have hq2 : ((Value.slice CA t.length ccap).ownBlock).getD wr.heap.size < X2.heap.size := by
              cases hob : (Value.slice CA t.length ccap).ownBlock with
              | none => have := hb1.size; show wr.heap.size < _; have e : wr.drew.heap.size = wr.heap.size := rfl; omega
              | some b => exact Nat.lt_trans (hqb b hob).2.2 hszX
            have hgm := (hCOd.m.more hq1).keep (hb1.trans (hbx.mono hb1.size))
            refine wpAnyH_ready (rs := [8]) (by kernel_rfl) (by simp) ?_
            refine AllReadyH.cons rfl (fun K hK => ?_) AllReadyH.nil
            refine step_own_v _ rfl _ _ 35 rfl base 52 i0 (.slice none 0 0) 1 24 Try.underlying35 HI.out.1 HI.out.2.1 HI.out.2.2.1 HI.out.2.2.2 rfl (by decide) _ _ _ rfl hCO2.s ⟨X1.heap.size, 0, none⟩ 1 1 [.slice CA t.length ccap] rfl rfl hnw ?dA2 ?dA3 ?dA4 ?dA5 ?_
            case dA2 => (intro u hu; simp at hu; subst hu; rfl)
            case dA3 => unfold maxLen; omega
            case dA4 => omega
            case dA5 => exact hCO2.bs
            intro v5 w5 ho5 hg5 hat5
            obtain ⟨A5, a5, hv5⟩ := own_form ho5
            subst hv5
            have REL := Lib.hid (hCO2.push hlt (by rw [htk]; exact hcv) (fun b hb => (hqb b hb).1) hq2 hgm ho5 hg5 HW0.out HWB.out)
            have hb5 := hCO2.b_grown hg5
            refine hK.out _ _ trivial (fun hHeld => ?_)
            clear hK K
            (first
              | (refine held_take (i := 9) (v := ?_) rfl (by kernel_rfl) (by kernel_rfl) (by kernel_rfl) (fun _ _ _ h => h) (Or.inl ⟨rfl, ?_⟩) (by assumption) ?_; rotate_left; (intro X hSw; (try dsimp only at hSw); (go_simp <;> with_reducible rfl)))
              | (refine held_take (i := 9) (v := undef) rfl (by kernel_rfl) (by kernel_rfl) (by kernel_rfl) (fun _ _ _ h => h) (Or.inr ⟨rfl, rfl⟩) (by assumption) ?_)); simp only [Act.put, List.setIfInBounds_toArray, List.set_cons_zero, List.set_cons_succ]
            (first
              | (refine held_take (i := 10) (v := ?_) rfl (by kernel_rfl) (by kernel_rfl) (by kernel_rfl) (fun _ _ _ h => h) (Or.inl ⟨rfl, ?_⟩) (by assumption) ?_; rotate_left; (intro X hSw; (try dsimp only at hSw); (go_simp <;> with_reducible rfl)))
              | (refine held_take (i := 10) (v := undef) rfl (by kernel_rfl) (by kernel_rfl) (by kernel_rfl) (fun _ _ _ h => h) (Or.inr ⟨rfl, rfl⟩) (by assumption) ?_)); simp only [Act.put, List.setIfInBounds_toArray, List.set_cons_zero, List.set_cons_succ]
            refine wpAnyH_ready (rs := [11]) (by kernel_rfl) (by simp) ?_
            refine AllReadyH.cons rfl (fun K hK => ?_) AllReadyH.nil
            have l3 : w5.cell? ⟨bb, 3, none⟩ = some sv := by rw [hb5.cell]; rfl
            have f3 := hb5.frozen 3
            have hl5 := hb5.lt
            clear hCO1 hCO2 hcv hnw hqb hq1 hq2 hgm hbx hb1 hcr ho5 hg5 hat5 hb5
            go_simp
            refine hK.out _ _ trivial (fun hHeld => ?_)
            clear hK K
            refine wpAnyH_done (by kernel_rfl) ?_ _
            obtain ⟨sv', vs', cs', hCO⟩ : ∃ sv' vs' cs', CO W base bb bm A cap z hd uh ts (k + 1) n sv' vs' cs' (w5.setCell ⟨bb, 3, none⟩ (.slice A5 (k + 1) a5)) := ⟨_, _, _, REL.out⟩
            clear REL CLN hCOd c0 htk l3 f3 hl5 hHeld
            generalize w5.setCell ⟨bb, 3, none⟩ (.slice A5 (k + 1) a5) = w7 at *
            go_wp2
            go_loopw [52] (fun i wr => ∃ m : Nat, m ≤ t.length ∧ i = .int .i64 m ∧ ∃ n', n' ≤ k * 1048576 + m ∧ CO W base bb bm A cap z hd uh ts (k + 1) n' sv' vs' cs' wr) (fun i _ => t.length - (intOf i).toNat)
            case atStart => exact ⟨0, Nat.zero_le _, rfl, n, Nat.le_trans hnk (Nat.le_add_right _ _), hCO⟩
            case round =>
              clear hCO
              obtain ⟨m, hml, rfl, n', hn', hCO⟩ := hrel
              by_cases hlm : m < t.length
              · have hlm' : (m : Int) < (t.length : Int) := by omega
                obtain ⟨kb, ko, rfl, hsy⟩ := (HTK.out _ hCO.bl).at_ hlm
                obtain ⟨s0, s1, s2⟩ := hsy
                obtain ⟨i, d, f, hi, hx, hdl, _⟩ := item_parts (HITM.out _ (List.getElem_mem hlm))
                rw [hx] at s0 s1 s2
                simp only at s0 s1 s2
                clear hx
                have hCOb := hCO.keep (below_box (.cells #[.int .i64 (i : Int), .int .i64 (d : Int), .int .i64 (f : Int)] 54))
                have NX0 := Lib.hid (next_any bb A cap (z.map Pv.p) i d f _ hCOb.bq (by rw [List.length_map]; omega) (HIT.out.small HS.out) hi hdl)
                have HSB := Lib.hid (HIT.out.bounds HOK.out _ (List.getElem_mem hi))
                have hzb : (wr.alloc (.cells #[.int .i64 (i : Int), .int .i64 (d : Int), .int .i64 (f : Int)] 54)).cell? ⟨wr.heap.size, 0, none⟩ = some (.int .i64 (i : Int)) ∧ (wr.alloc (.cells #[.int .i64 (i : Int), .int .i64 (d : Int), .int .i64 (f : Int)] 54)).cell? ⟨wr.heap.size, 1, none⟩ = some (.int .i64 (d : Int)) ∧ (wr.alloc (.cells #[.int .i64 (i : Int), .int .i64 (d : Int), .int .i64 (f : Int)] 54)).cell? ⟨wr.heap.size, 2, none⟩ = some (.int .i64 (f : Int)) := ⟨by simp, by simp, by simp⟩
                obtain ⟨z0, z1, z2⟩ := hzb
                have HCOb := Lib.hid hCOb
                clear hCO hCOb
                generalize (z.map Pv.p)[i] = p at *
                by_cases h : d = p.body.length
                · rw [show nextV p d = .agg #[.int .i64 0, .int .i64 0, .int .i64 0] from by unfold nextV; rw [List.getElem?_eq_none (by omega)], show isWaiting p d = false from by unfold isWaiting; simp [h]] at NX0
                  clear h
                  go_wp2_with fail
                  refine NX0.out.mono ?_
                  rintro e w4 ⟨rfl, hb4⟩
                  have HC4 := Lib.hid ((HCOb.out.keep hb4).keep (below_box (.cells #[.int .i64 0, .int .i64 0, .int .i64 0] 68)))
                  clear hb4 z0 z1 z2 s0 s1 s2
                  go_wp2
                  go_roundw
                  case rel => exact ⟨m + 1, by omega, by go_num, _, by omega, HC4.out⟩
                  case measure => simp [intOf]; omega
                · have hdl2 : d < p.body.length := by omega
                  have hsb := HSB.out _ (List.getElem_mem hdl2)
                  rw [show nextV p d = .agg #[.int .i64 p.body[d].head, .int .i64 p.body[d].low, .int .i64 p.body[d].high] from by unfold nextV; rw [List.getElem?_eq_getElem hdl2], show isWaiting p d = true from by unfold isWaiting; simp [hdl2]] at NX0
                  generalize p.body[d] = s at *
                  clear h
                  by_cases he : s.head = -1
                  · have he' : (s.head != -1) = false := by simp [he]
                    clear he hsb
                    go_wp2_with fail
                    refine NX0.out.mono ?_
                    rintro e w4 ⟨rfl, hb4⟩
                    have HC4 := Lib.hid ((HCOb.out.keep hb4).keep (below_box (.cells #[.int .i64 s.head, .int .i64 s.low, .int .i64 s.high] 68)))
                    clear hb4 z0 z1 z2 s0 s1 s2
                    go_wp2
                    go_roundw
                    case rel => exact ⟨m + 1, by omega, by go_num, _, by omega, HC4.out⟩
                    case measure => simp [intOf]; omega
                  · have he' : (s.head != -1) = true := by simp [he]
                    have hs2 : 0 ≤ s.head ∧ s.head < 200 := by rcases hsb with h1 | h1 <;> omega
                    clear he hsb
                    go_wp2_with fail
                    refine NX0.out.mono ?_
                    rintro e w4 ⟨rfl, hb4⟩
                    have hbx4 : Below w4.heap.size w4 (w4.alloc (.cells #[.int .i64 s.head, .int .i64 s.low, .int .i64 s.high] 68)) := below_box _
                    have hC4 := (HCOb.out.keep hb4).keep hbx4
                    replace z0 := cell_keep hbx4 (cell_keep hb4 z0)
                    replace z1 := cell_keep hbx4 (cell_keep hb4 z1)
                    replace z2 := cell_keep hbx4 (cell_keep hb4 z2)
                    have AW := Lib.hid (await_any bb bm base n' cs' s.head (k : Int) ⟨(i : Int), (d : Int), (f : Int)⟩ _ hC4.cell.2.2.1 hC4.m (by omega) hC4.cl hC4.bs HBB.out HNE.out (WalkArith.wf_i64 (by omega)) (WalkArith.wf_i64 (by omega)))
                    have HC4 := Lib.hid hC4
                    clear hb4 hbx4 hC4 s0 s1 s2
                    go_wp2_with fail
                    refine AW.out.mono ?_
                    rintro e w6 ⟨r, rfl, hGM, hAF⟩
                    have HC6 := Lib.hid (HC4.out.await hAF hGM HW0.out HWM.out HNE.out)
                    clear hGM hAF z0 z1 z2
                    go_wp2
                    go_roundw
                    case rel => exact ⟨m + 1, by omega, by go_num, _, by omega, HC6.out⟩
                    case measure => simp [intOf]; omega
              · have hlm' : ¬ (m : Int) < (t.length : Int) := by omega
                have hnn : n' ≤ (k + 1) * 1048576 := by omega
                go_wp2
                go_roundw
                case rel => exact ⟨_, _, _, _, _, _, ⟨k + 1, by omega, by go_num, n', hnn, _, _, _, hCO⟩, rfl, rfl, rfl, rfl, rfl, rfl⟩
                case measure => simp [intOf]; omega
          · go_simp
            go_wp2_with (go_at_call 46; refine (CLN.out).mono ?_; rintro e X1 ⟨CA, ccap, rfl, hcr, hb1⟩)
            refine hK.out _ _ trivial (fun hHeld => ?_)
            clear hK K
            have hCO1 := hCOd.keep hb1
            refine wpAnyH_ready (rs := [4, 7]) (by kernel_rfl) (by simp) ?_
            refine AllReadyH.cons rfl (fun K hK => ?_) (AllReadyH.cons rfl (fun K hK => ?_) AllReadyH.nil)
            · have l3 := hCO1.cell.2.1
              go_simp
              refine hK.out _ _ trivial (fun hHeld => ?_)
              clear hK K l3
              refine wpAnyH_ready (rs := [7]) (by kernel_rfl) (by simp) ?_
              refine AllReadyH.cons rfl (fun K hK => ?_) AllReadyH.nil
              go_simp
              refine hK.out _ _ trivial (fun hHeld => ?_)
              clear hK K
              have hbx : Below X1.heap.size X1 (X1.alloc (.cells #[.slice CA t.length ccap] 52)) := below_box _
              have hCO2 := hCO1.keep hbx
              have hcv : itRow (X1.alloc (.cells #[.slice CA t.length ccap] 52)) base (.slice CA t.length ccap) t := own_keep (own_base hcr hCOd.bs) hbx
              have hnw := cell_one_new X1 (.slice CA t.length ccap) 52
              have hszX : X1.heap.size < (X1.alloc (.cells #[.slice CA t.length ccap] 52)).heap.size := by simp
              have hqb : ∀ b, (Value.slice CA t.length ccap).ownBlock = some b → b = ((Value.slice CA t.length ccap).ownBlock).getD wr.heap.size ∧ wr.heap.size ≤ b ∧ b < X1.heap.size := fun b hb => ⟨by rw [hb]; rfl, hcr.lt b hb⟩
              generalize X1.alloc (.cells #[.slice CA t.length ccap] 52) = X2 at *
              have hq1 : wr.heap.size ≤ ((Value.slice CA t.length ccap).ownBlock).getD wr.heap.size := by
                cases hob : (Value.slice CA t.length ccap).ownBlock with
                | none => exact Nat.le_refl _
                | some b => exact (hqb b hob).2.1
              have hq2 : ((Value.slice CA t.length ccap).ownBlock).getD wr.heap.size < X2.heap.size := by
                cases hob : (Value.slice CA t.length ccap).ownBlock with
                | none => have := hb1.size; show wr.heap.size < _; have e : wr.drew.heap.size = wr.heap.size := rfl; omega
                | some b => exact Nat.lt_trans (hqb b hob).2.2 hszX
              have hgm := (hCOd.m.more hq1).keep (hb1.trans (hbx.mono hb1.size))
              refine wpAnyH_ready (rs := [8]) (by kernel_rfl) (by simp) ?_
              refine AllReadyH.cons rfl (fun K hK => ?_) AllReadyH.nil
              refine step_own_v _ rfl _ _ 35 rfl base 52 i0 (.slice none 0 0) 1 24 Try.underlying35 HI.out.1 HI.out.2.1 HI.out.2.2.1 HI.out.2.2.2 rfl (by decide) _ _ _ rfl hCO2.s ⟨X1.heap.size, 0, none⟩ 1 1 [.slice CA t.length ccap] rfl rfl hnw ?dB2 ?dB3 ?dB4 ?dB5 ?_
              case dB2 => (intro u hu; simp at hu; subst hu; rfl)
              case dB3 => unfold maxLen; omega
              case dB4 => omega
              case dB5 => exact hCO2.bs
              intro v5 w5 ho5 hg5 hat5
              obtain ⟨A5, a5, hv5⟩ := own_form ho5
              subst hv5
              have REL := Lib.hid (hCO2.push hlt (by rw [htk]; exact hcv) (fun b hb => (hqb b hb).1) hq2 hgm ho5 hg5 HW0.out HWB.out)
              have hb5 := hCO2.b_grown hg5
              refine hK.out _ _ trivial (fun hHeld => ?_)
              clear hK K
              (first
                | (refine held_take (i := 9) (v := ?_) rfl (by kernel_rfl) (by kernel_rfl) (by kernel_rfl) (fun _ _ _ h => h) (Or.inl ⟨rfl, ?_⟩) (by assumption) ?_; rotate_left; (intro X hSw; (try dsimp only at hSw); (go_simp <;> with_reducible rfl)))
                | (refine held_take (i := 9) (v := undef) rfl (by kernel_rfl) (by kernel_rfl) (by kernel_rfl) (fun _ _ _ h => h) (Or.inr ⟨rfl, rfl⟩) (by assumption) ?_)); simp only [Act.put, List.setIfInBounds_toArray, List.set_cons_zero, List.set_cons_succ]
              (first
                | (refine held_take (i := 10) (v := ?_) rfl (by kernel_rfl) (by kernel_rfl) (by kernel_rfl) (fun _ _ _ h => h) (Or.inl ⟨rfl, ?_⟩) (by assumption) ?_; rotate_left; (intro X hSw; (try dsimp only at hSw); (go_simp <;> with_reducible rfl)))
                | (refine held_take (i := 10) (v := undef) rfl (by kernel_rfl) (by kernel_rfl) (by kernel_rfl) (fun _ _ _ h => h) (Or.inr ⟨rfl, rfl⟩) (by assumption) ?_)); simp only [Act.put, List.setIfInBounds_toArray, List.set_cons_zero, List.set_cons_succ]
              refine wpAnyH_ready (rs := [11]) (by kernel_rfl) (by simp) ?_
              refine AllReadyH.cons rfl (fun K hK => ?_) AllReadyH.nil
              have l3 : w5.cell? ⟨bb, 3, none⟩ = some sv := by rw [hb5.cell]; rfl
              have f3 := hb5.frozen 3
              have hl5 := hb5.lt
              clear hCO1 hCO2 hcv hnw hqb hq1 hq2 hgm hbx hb1 hcr ho5 hg5 hat5 hb5
              go_simp
              refine hK.out _ _ trivial (fun hHeld => ?_)
              clear hK K
              refine wpAnyH_done (by kernel_rfl) ?_ _
              obtain ⟨sv', vs', cs', hCO⟩ : ∃ sv' vs' cs', CO W base bb bm A cap z hd uh ts (k + 1) n sv' vs' cs' (w5.setCell ⟨bb, 3, none⟩ (.slice A5 (k + 1) a5)) := ⟨_, _, _, REL.out⟩
              clear REL CLN hCOd c0 htk l3 f3 hl5 hHeld
              generalize w5.setCell ⟨bb, 3, none⟩ (.slice A5 (k + 1) a5) = w7 at *
              go_wp2
              go_loopw [52] (fun i wr => ∃ m : Nat, m ≤ t.length ∧ i = .int .i64 m ∧ ∃ n', n' ≤ k * 1048576 + m ∧ CO W base bb bm A cap z hd uh ts (k + 1) n' sv' vs' cs' wr) (fun i _ => t.length - (intOf i).toNat)
              case atStart => exact ⟨0, Nat.zero_le _, rfl, n, Nat.le_trans hnk (Nat.le_add_right _ _), hCO⟩
              case round =>
                clear hCO
                obtain ⟨m, hml, rfl, n', hn', hCO⟩ := hrel
                by_cases hlm : m < t.length
                · have hlm' : (m : Int) < (t.length : Int) := by omega
                  obtain ⟨kb, ko, rfl, hsy⟩ := (HTK.out _ hCO.bl).at_ hlm
                  obtain ⟨s0, s1, s2⟩ := hsy
                  obtain ⟨i, d, f, hi, hx, hdl, _⟩ := item_parts (HITM.out _ (List.getElem_mem hlm))
                  rw [hx] at s0 s1 s2
                  simp only at s0 s1 s2
                  clear hx
                  have hCOb := hCO.keep (below_box (.cells #[.int .i64 (i : Int), .int .i64 (d : Int), .int .i64 (f : Int)] 54))
                  have NX0 := Lib.hid (next_any bb A cap (z.map Pv.p) i d f _ hCOb.bq (by rw [List.length_map]; omega) (HIT.out.small HS.out) hi hdl)
                  have HSB := Lib.hid (HIT.out.bounds HOK.out _ (List.getElem_mem hi))
                  have hzb : (wr.alloc (.cells #[.int .i64 (i : Int), .int .i64 (d : Int), .int .i64 (f : Int)] 54)).cell? ⟨wr.heap.size, 0, none⟩ = some (.int .i64 (i : Int)) ∧ (wr.alloc (.cells #[.int .i64 (i : Int), .int .i64 (d : Int), .int .i64 (f : Int)] 54)).cell? ⟨wr.heap.size, 1, none⟩ = some (.int .i64 (d : Int)) ∧ (wr.alloc (.cells #[.int .i64 (i : Int), .int .i64 (d : Int), .int .i64 (f : Int)] 54)).cell? ⟨wr.heap.size, 2, none⟩ = some (.int .i64 (f : Int)) := ⟨by simp, by simp, by simp⟩
                  obtain ⟨z0, z1, z2⟩ := hzb
                  have HCOb := Lib.hid hCOb
                  clear hCO hCOb
                  generalize (z.map Pv.p)[i] = p at *
                  by_cases h : d = p.body.length
                  · rw [show nextV p d = .agg #[.int .i64 0, .int .i64 0, .int .i64 0] from by unfold nextV; rw [List.getElem?_eq_none (by omega)], show isWaiting p d = false from by unfold isWaiting; simp [h]] at NX0
                    clear h
                    go_wp2_with fail
                    refine NX0.out.mono ?_
                    rintro e w4 ⟨rfl, hb4⟩
                    have HC4 := Lib.hid ((HCOb.out.keep hb4).keep (below_box (.cells #[.int .i64 0, .int .i64 0, .int .i64 0] 68)))
                    clear hb4 z0 z1 z2 s0 s1 s2
                    go_wp2
                    go_roundw
                    case rel => exact ⟨m + 1, by omega, by go_num, _, by omega, HC4.out⟩
                    case measure => simp [intOf]; omega
                  · have hdl2 : d < p.body.length := by omega
                    have hsb := HSB.out _ (List.getElem_mem hdl2)
                    rw [show nextV p d = .agg #[.int .i64 p.body[d].head, .int .i64 p.body[d].low, .int .i64 p.body[d].high] from by unfold nextV; rw [List.getElem?_eq_getElem hdl2], show isWaiting p d = true from by unfold isWaiting; simp [hdl2]] at NX0
                    generalize p.body[d] = s at *
                    clear h
                    by_cases he : s.head = -1
                    · have he' : (s.head != -1) = false := by simp [he]
                      clear he hsb
                      go_wp2_with fail
                      refine NX0.out.mono ?_
                      rintro e w4 ⟨rfl, hb4⟩
                      have HC4 := Lib.hid ((HCOb.out.keep hb4).keep (below_box (.cells #[.int .i64 s.head, .int .i64 s.low, .int .i64 s.high] 68)))
                      clear hb4 z0 z1 z2 s0 s1 s2
                      go_wp2
                      go_roundw
                      case rel => exact ⟨m + 1, by omega, by go_num, _, by omega, HC4.out⟩
                      case measure => simp [intOf]; omega
                    · have he' : (s.head != -1) = true := by simp [he]
                      have hs2 : 0 ≤ s.head ∧ s.head < 200 := by rcases hsb with h1 | h1 <;> omega
                      clear he hsb
                      go_wp2_with fail
                      refine NX0.out.mono ?_
                      rintro e w4 ⟨rfl, hb4⟩
                      have hbx4 : Below w4.heap.size w4 (w4.alloc (.cells #[.int .i64 s.head, .int .i64 s.low, .int .i64 s.high] 68)) := below_box _
                      have hC4 := (HCOb.out.keep hb4).keep hbx4
                      replace z0 := cell_keep hbx4 (cell_keep hb4 z0)
                      replace z1 := cell_keep hbx4 (cell_keep hb4 z1)
                      replace z2 := cell_keep hbx4 (cell_keep hb4 z2)
                      have AW := Lib.hid (await_any bb bm base n' cs' s.head (k : Int) ⟨(i : Int), (d : Int), (f : Int)⟩ _ hC4.cell.2.2.1 hC4.m (by omega) hC4.cl hC4.bs HBB.out HNE.out (WalkArith.wf_i64 (by omega)) (WalkArith.wf_i64 (by omega)))
                      have HC4 := Lib.hid hC4
                      clear hb4 hbx4 hC4 s0 s1 s2
                      go_wp2_with fail
                      refine AW.out.mono ?_
                      rintro e w6 ⟨r, rfl, hGM, hAF⟩
                      have HC6 := Lib.hid (HC4.out.await hAF hGM HW0.out HWM.out HNE.out)
                      clear hGM hAF z0 z1 z2
                      go_wp2
                      go_roundw
                      case rel => exact ⟨m + 1, by omega, by go_num, _, by omega, HC6.out⟩
                      case measure => simp [intOf]; omega
                · have hlm' : ¬ (m : Int) < (t.length : Int) := by omega
                  have hnn : n' ≤ (k + 1) * 1048576 := by omega
                  go_wp2
                  go_roundw
                  case rel => exact ⟨_, _, _, _, _, _, ⟨k + 1, by omega, by go_num, n', hnn, _, _, _, hCO⟩, rfl, rfl, rfl, rfl, rfl, rfl⟩
                  case measure => simp [intOf]; omega
            · go_simp
              refine hK.out _ _ trivial (fun hHeld => ?_)
              clear hK K
              have hbx : Below X1.heap.size X1 (X1.alloc (.cells #[.slice CA t.length ccap] 52)) := below_box _
              have hCO2 := hCO1.keep hbx
              have hcv : itRow (X1.alloc (.cells #[.slice CA t.length ccap] 52)) base (.slice CA t.length ccap) t := own_keep (own_base hcr hCOd.bs) hbx
              have hnw := cell_one_new X1 (.slice CA t.length ccap) 52
              have hszX : X1.heap.size < (X1.alloc (.cells #[.slice CA t.length ccap] 52)).heap.size := by simp
              have hqb : ∀ b, (Value.slice CA t.length ccap).ownBlock = some b → b = ((Value.slice CA t.length ccap).ownBlock).getD wr.heap.size ∧ wr.heap.size ≤ b ∧ b < X1.heap.size := fun b hb => ⟨by rw [hb]; rfl, hcr.lt b hb⟩
              generalize X1.alloc (.cells #[.slice CA t.length ccap] 52) = X2 at *
              have hq1 : wr.heap.size ≤ ((Value.slice CA t.length ccap).ownBlock).getD wr.heap.size := by
                cases hob : (Value.slice CA t.length ccap).ownBlock with
                | none => exact Nat.le_refl _
                | some b => exact (hqb b hob).2.1
              have hq2 : ((Value.slice CA t.length ccap).ownBlock).getD wr.heap.size < X2.heap.size := by
                cases hob : (Value.slice CA t.length ccap).ownBlock with
                | none => have := hb1.size; show wr.heap.size < _; have e : wr.drew.heap.size = wr.heap.size := rfl; omega
                | some b => exact Nat.lt_trans (hqb b hob).2.2 hszX
              have hgm := (hCOd.m.more hq1).keep (hb1.trans (hbx.mono hb1.size))
              refine wpAnyH_ready (rs := [4]) (by kernel_rfl) (by simp) ?_
              refine AllReadyH.cons rfl (fun K hK => ?_) AllReadyH.nil
              have l3 := hCO2.cell.2.1
              go_simp
              refine hK.out _ _ trivial (fun hHeld => ?_)
              clear hK K l3
              refine wpAnyH_ready (rs := [8]) (by kernel_rfl) (by simp) ?_
              refine AllReadyH.cons rfl (fun K hK => ?_) AllReadyH.nil
              refine step_own_v _ rfl _ _ 35 rfl base 52 i0 (.slice none 0 0) 1 24 Try.underlying35 HI.out.1 HI.out.2.1 HI.out.2.2.1 HI.out.2.2.2 rfl (by decide) _ _ _ rfl hCO2.s ⟨X1.heap.size, 0, none⟩ 1 1 [.slice CA t.length ccap] rfl rfl hnw ?dC2 ?dC3 ?dC4 ?dC5 ?_
              case dC2 => (intro u hu; simp at hu; subst hu; rfl)
              case dC3 => unfold maxLen; omega
              case dC4 => omega
              case dC5 => exact hCO2.bs
              intro v5 w5 ho5 hg5 hat5
              obtain ⟨A5, a5, hv5⟩ := own_form ho5
              subst hv5
              have REL := Lib.hid (hCO2.push hlt (by rw [htk]; exact hcv) (fun b hb => (hqb b hb).1) hq2 hgm ho5 hg5 HW0.out HWB.out)
              have hb5 := hCO2.b_grown hg5
              refine hK.out _ _ trivial (fun hHeld => ?_)
              clear hK K
              (first
                | (refine held_take (i := 9) (v := ?_) rfl (by kernel_rfl) (by kernel_rfl) (by kernel_rfl) (fun _ _ _ h => h) (Or.inl ⟨rfl, ?_⟩) (by assumption) ?_; rotate_left; (intro X hSw; (try dsimp only at hSw); (go_simp <;> with_reducible rfl)))
                | (refine held_take (i := 9) (v := undef) rfl (by kernel_rfl) (by kernel_rfl) (by kernel_rfl) (fun _ _ _ h => h) (Or.inr ⟨rfl, rfl⟩) (by assumption) ?_)); simp only [Act.put, List.setIfInBounds_toArray, List.set_cons_zero, List.set_cons_succ]
              (first
                | (refine held_take (i := 10) (v := ?_) rfl (by kernel_rfl) (by kernel_rfl) (by kernel_rfl) (fun _ _ _ h => h) (Or.inl ⟨rfl, ?_⟩) (by assumption) ?_; rotate_left; (intro X hSw; (try dsimp only at hSw); (go_simp <;> with_reducible rfl)))
                | (refine held_take (i := 10) (v := undef) rfl (by kernel_rfl) (by kernel_rfl) (by kernel_rfl) (fun _ _ _ h => h) (Or.inr ⟨rfl, rfl⟩) (by assumption) ?_)); simp only [Act.put, List.setIfInBounds_toArray, List.set_cons_zero, List.set_cons_succ]
              refine wpAnyH_ready (rs := [11]) (by kernel_rfl) (by simp) ?_
              refine AllReadyH.cons rfl (fun K hK => ?_) AllReadyH.nil
              have l3 : w5.cell? ⟨bb, 3, none⟩ = some sv := by rw [hb5.cell]; rfl
              have f3 := hb5.frozen 3
              have hl5 := hb5.lt
              clear hCO1 hCO2 hcv hnw hqb hq1 hq2 hgm hbx hb1 hcr ho5 hg5 hat5 hb5
              go_simp
              refine hK.out _ _ trivial (fun hHeld => ?_)
              clear hK K
              refine wpAnyH_done (by kernel_rfl) ?_ _
              obtain ⟨sv', vs', cs', hCO⟩ : ∃ sv' vs' cs', CO W base bb bm A cap z hd uh ts (k + 1) n sv' vs' cs' (w5.setCell ⟨bb, 3, none⟩ (.slice A5 (k + 1) a5)) := ⟨_, _, _, REL.out⟩
              clear REL CLN hCOd c0 htk l3 f3 hl5 hHeld
              generalize w5.setCell ⟨bb, 3, none⟩ (.slice A5 (k + 1) a5) = w7 at *
              go_wp2
              go_loopw [52] (fun i wr => ∃ m : Nat, m ≤ t.length ∧ i = .int .i64 m ∧ ∃ n', n' ≤ k * 1048576 + m ∧ CO W base bb bm A cap z hd uh ts (k + 1) n' sv' vs' cs' wr) (fun i _ => t.length - (intOf i).toNat)
              case atStart => exact ⟨0, Nat.zero_le _, rfl, n, Nat.le_trans hnk (Nat.le_add_right _ _), hCO⟩
              case round =>
                clear hCO
                obtain ⟨m, hml, rfl, n', hn', hCO⟩ := hrel
                by_cases hlm : m < t.length
                · have hlm' : (m : Int) < (t.length : Int) := by omega
                  obtain ⟨kb, ko, rfl, hsy⟩ := (HTK.out _ hCO.bl).at_ hlm
                  obtain ⟨s0, s1, s2⟩ := hsy
                  obtain ⟨i, d, f, hi, hx, hdl, _⟩ := item_parts (HITM.out _ (List.getElem_mem hlm))
                  rw [hx] at s0 s1 s2
                  simp only at s0 s1 s2
                  clear hx
                  have hCOb := hCO.keep (below_box (.cells #[.int .i64 (i : Int), .int .i64 (d : Int), .int .i64 (f : Int)] 54))
                  have NX0 := Lib.hid (next_any bb A cap (z.map Pv.p) i d f _ hCOb.bq (by rw [List.length_map]; omega) (HIT.out.small HS.out) hi hdl)
                  have HSB := Lib.hid (HIT.out.bounds HOK.out _ (List.getElem_mem hi))
                  have hzb : (wr.alloc (.cells #[.int .i64 (i : Int), .int .i64 (d : Int), .int .i64 (f : Int)] 54)).cell? ⟨wr.heap.size, 0, none⟩ = some (.int .i64 (i : Int)) ∧ (wr.alloc (.cells #[.int .i64 (i : Int), .int .i64 (d : Int), .int .i64 (f : Int)] 54)).cell? ⟨wr.heap.size, 1, none⟩ = some (.int .i64 (d : Int)) ∧ (wr.alloc (.cells #[.int .i64 (i : Int), .int .i64 (d : Int), .int .i64 (f : Int)] 54)).cell? ⟨wr.heap.size, 2, none⟩ = some (.int .i64 (f : Int)) := ⟨by simp, by simp, by simp⟩
                  obtain ⟨z0, z1, z2⟩ := hzb
                  have HCOb := Lib.hid hCOb
                  clear hCO hCOb
                  generalize (z.map Pv.p)[i] = p at *
                  by_cases h : d = p.body.length
                  · rw [show nextV p d = .agg #[.int .i64 0, .int .i64 0, .int .i64 0] from by unfold nextV; rw [List.getElem?_eq_none (by omega)], show isWaiting p d = false from by unfold isWaiting; simp [h]] at NX0
                    clear h
                    go_wp2_with fail
                    refine NX0.out.mono ?_
                    rintro e w4 ⟨rfl, hb4⟩
                    have HC4 := Lib.hid ((HCOb.out.keep hb4).keep (below_box (.cells #[.int .i64 0, .int .i64 0, .int .i64 0] 68)))
                    clear hb4 z0 z1 z2 s0 s1 s2
                    go_wp2
                    go_roundw
                    case rel => exact ⟨m + 1, by omega, by go_num, _, by omega, HC4.out⟩
                    case measure => simp [intOf]; omega
                  · have hdl2 : d < p.body.length := by omega
                    have hsb := HSB.out _ (List.getElem_mem hdl2)
                    rw [show nextV p d = .agg #[.int .i64 p.body[d].head, .int .i64 p.body[d].low, .int .i64 p.body[d].high] from by unfold nextV; rw [List.getElem?_eq_getElem hdl2], show isWaiting p d = true from by unfold isWaiting; simp [hdl2]] at NX0
                    generalize p.body[d] = s at *
                    clear h
                    by_cases he : s.head = -1
                    · have he' : (s.head != -1) = false := by simp [he]
                      clear he hsb
                      go_wp2_with fail
                      refine NX0.out.mono ?_
                      rintro e w4 ⟨rfl, hb4⟩
                      have HC4 := Lib.hid ((HCOb.out.keep hb4).keep (below_box (.cells #[.int .i64 s.head, .int .i64 s.low, .int .i64 s.high] 68)))
                      clear hb4 z0 z1 z2 s0 s1 s2
                      go_wp2
                      go_roundw
                      case rel => exact ⟨m + 1, by omega, by go_num, _, by omega, HC4.out⟩
                      case measure => simp [intOf]; omega
                    · have he' : (s.head != -1) = true := by simp [he]
                      have hs2 : 0 ≤ s.head ∧ s.head < 200 := by rcases hsb with h1 | h1 <;> omega
                      clear he hsb
                      go_wp2_with fail
                      refine NX0.out.mono ?_
                      rintro e w4 ⟨rfl, hb4⟩
                      have hbx4 : Below w4.heap.size w4 (w4.alloc (.cells #[.int .i64 s.head, .int .i64 s.low, .int .i64 s.high] 68)) := below_box _
                      have hC4 := (HCOb.out.keep hb4).keep hbx4
                      replace z0 := cell_keep hbx4 (cell_keep hb4 z0)
                      replace z1 := cell_keep hbx4 (cell_keep hb4 z1)
                      replace z2 := cell_keep hbx4 (cell_keep hb4 z2)
                      have AW := Lib.hid (await_any bb bm base n' cs' s.head (k : Int) ⟨(i : Int), (d : Int), (f : Int)⟩ _ hC4.cell.2.2.1 hC4.m (by omega) hC4.cl hC4.bs HBB.out HNE.out (WalkArith.wf_i64 (by omega)) (WalkArith.wf_i64 (by omega)))
                      have HC4 := Lib.hid hC4
                      clear hb4 hbx4 hC4 s0 s1 s2
                      go_wp2_with fail
                      refine AW.out.mono ?_
                      rintro e w6 ⟨r, rfl, hGM, hAF⟩
                      have HC6 := Lib.hid (HC4.out.await hAF hGM HW0.out HWM.out HNE.out)
                      clear hGM hAF z0 z1 z2
                      go_wp2
                      go_roundw
                      case rel => exact ⟨m + 1, by omega, by go_num, _, by omega, HC6.out⟩
                      case measure => simp [intOf]; omega
                · have hlm' : ¬ (m : Int) < (t.length : Int) := by omega
                  have hnn : n' ≤ (k + 1) * 1048576 := by omega
                  go_wp2
                  go_roundw
                  case rel => exact ⟨_, _, _, _, _, _, ⟨k + 1, by omega, by go_num, n', hnn, _, _, _, hCO⟩, rfl, rfl, rfl, rfl, rfl, rfl⟩
                  case measure => simp [intOf]; omega
        · have hlt' : ¬ (k : Int) < (ts.length : Int) := by omega
          obtain rfl : k = ts.length := by omega
          obtain ⟨S, sc, rfl⟩ := own_form hCO.s
          have FIN : Hid (BofPost hd ps ts w (.returned (.tuple #[.pointer (some ⟨bb, 0, none⟩), .bool true])) wr) :=
            ⟨hd, _, HIT.out, HB0.out.trans (hCO.bl.mono HB0.out.size), .inr ⟨by rw [HOK.out, HCH.out]; rfl, bb, A, cap, S, sc, rfl, fun X hX => hCO.stay HW0.out HWB.out (fun k hk hl => hX k (Nat.le_trans HB0.out.size hk) hl)⟩⟩
          clear hCO
          go_wp2
          refine bodyPost_ret (v := .tuple #[.pointer (some ⟨bb, 0, none⟩), .bool true]) (by simp [results, Try.results28, go_sem]) rfl FIN.out

end Go.Proofs.Ytafldjbmheopjaa
