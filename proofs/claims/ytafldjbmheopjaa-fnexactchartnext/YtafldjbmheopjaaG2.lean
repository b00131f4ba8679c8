/- A new builder of charts: newChartBuilder, its blocks. -/
import Derived.Test.YtafldjbmheopjaaF5
import Derived.Test.YtafldjbmheopjaaK9
import Derived.Carry
namespace Go.Proofs.Ytafldjbmheopjaa
open Go.RowKit
set_option linter.unusedVariables false

theorem OG.base {w : World} {base base' cap : Nat} {A : Option Addr} {xs : List Pv} (h : OG w base A cap xs) (hb : base' ≤ base) : OG w base' A cap xs := ⟨own_base h.o hb, fun i hi => own_base (h.d i hi) hb, h.ap⟩

/-- The five cells of a builder, a map, and productions of one's own. -/
structure NC (base bb bm : Nat) (A : Option Addr) (cap : Nat) (z : List Pv) (L : List Value) (w : World) : Prop where
  b : Own w bb 91 L
  m : w.heap[bm]? = some (.map #[] 0)
  g : OG w base A cap z

section
variable {base bb bm cap : Nat} {A : Option Addr} {z : List Pv} {L : List Value} {w w' : World}
theorem NC.lt (h : NC base bb bm A cap z L w) : bm < w.heap.size := (Array.getElem?_eq_some_iff.1 h.m).1
theorem NC.keep (h : NC base bb bm A cap z L w) (hb : Below w.heap.size w w') : NC base bb bm A cap z L w' := ⟨h.b.keep hb, (hb.block bm h.lt).trans h.m, h.g.keep hb⟩
/-- A row of numbers has grown. -/
theorem NC.grown (h : NC base bb bm A cap z L w) {r : Option Nat} (hg : w.grownBy w' r) (hr : ∀ k, r = some k → ∃ cur, Own w k 3 cur) : NC base bb bm A cap z L w' := by
  have key : ∀ k t ys, Own w k t ys → t ≠ 3 → w'.heap[k]? = w.heap[k]? := fun k t ys ho ht => hg.block k ho.lt (fun e => by
    obtain ⟨cur, hc⟩ := hr k e.symm
    exact ho.ne hc ht rfl)
  refine ⟨(key bb 91 L h.b (by decide)).trans h.b, (hg.block bm h.lt (fun e => ?_)).trans h.m, ?_⟩
  · obtain ⟨cur, hc⟩ := hr bm e.symm
    have := h.m
    unfold Own at hc
    rw [hc] at this
    cases this
  · have row : ∀ {e : TypeId} {size : Nat} {v : Value} {n : Nat} {xs : List Value}, w.ownsRow base e size v n xs → e ≠ 3 → w'.ownsRow base e size v n xs := by
      intro e size v n xs ho he
      rcases ho with ⟨hl, h0 | ⟨g, cp, cur, h0, h1, h2, h3⟩⟩
      · exact ⟨hl, .inl h0⟩
      · exact ⟨hl, .inr ⟨g, cp, cur, h0, h1, (key g e cur.toList (by unfold Own; simpa using h2) he).trans h2, h3⟩⟩
    exact ⟨row h.g.o (by decide), fun i hi => row (h.g.d i hi) (by decide), h.g.ap⟩
theorem NC.far (h : NC base bb bm A cap z L w) {g i : Nat} {t : TypeId} {ys : List Value} (ho : Own w g t ys) (h1 : 57 ≠ t) (h2 : 68 ≠ t) (h3 : 91 ≠ t) (u : Value) : NC base bb bm A cap z L (w.setCell ⟨g, i, none⟩ u) :=
  ⟨h.b.far (h.b.ne ho h3) u, (Below.heap_setCell w ⟨g, i, none⟩ u bm (fun e => by
    have e' : bm = g := e
    have := h.m
    rw [e'] at this
    unfold Own at ho
    rw [ho] at this
    cases this)).trans h.m, h.g.far ho h1 h2 u⟩
end

/-- What is there behind the making of a builder. -/
def NB (hd : Int) (ps : List Pd) (n : Nat) (W : World) (p : Value) (wx : World) : Prop :=
  ∃ bb bh bm A cap z, p = .pointer (some ⟨bb, 0, none⟩) ∧ W.heap.size ≤ bb ∧ W.heap.size ≤ bh ∧ W.heap.size ≤ bm ∧ IsTrim hd ps hd (z.map Pv.p) ∧ NC W.heap.size bb bm A cap z [.int .i64 hd, .slice A z.length cap, .slice (some ⟨bh, 0, none⟩) n n, .slice none 0 0, .map (some bm)] wx ∧ Own wx bh 81 (List.replicate n (.slice none 0 0)) ∧ Below W.heap.size W wx

theorem set5_cells {X : World} {g : Nat} {p q : Addr} {x y : Value} (h0 : X.cell? p = some x) (h1 : X.cell? q = some y) (hg : g ≠ p.block ∧ g ≠ q.block) (a b c d e : Value) :
    (((((X.setCell ⟨g, 0, none⟩ a).setCell ⟨g, 1, none⟩ b).setCell ⟨g, 2, none⟩ c).setCell ⟨g, 3, none⟩ d).setCell ⟨g, 4, none⟩ e).cell? p = some x ∧
    (((((X.setCell ⟨g, 0, none⟩ a).setCell ⟨g, 1, none⟩ b).setCell ⟨g, 2, none⟩ c).setCell ⟨g, 3, none⟩ d).setCell ⟨g, 4, none⟩ e).cell? q = some y := by
  have far : ∀ (Y : World) (i : Nat) (v : Value) (r : Addr) (u : Value), g ≠ r.block → Y.cell? r = some u → (Y.setCell ⟨g, i, none⟩ v).cell? r = some u := fun Y i v r u hr hu =>
    (World.cell?_of_block (Below.heap_setCell Y ⟨g, i, none⟩ v r.block (fun e => hr e.symm))).trans hu
  exact ⟨far _ _ _ _ _ hg.1 (far _ _ _ _ _ hg.1 (far _ _ _ _ _ hg.1 (far _ _ _ _ _ hg.1 (far _ _ _ _ _ hg.1 h0)))), far _ _ _ _ _ hg.2 (far _ _ _ _ _ hg.2 (far _ _ _ _ _ hg.2 (far _ _ _ _ _ hg.2 (far _ _ _ _ _ hg.2 h1))))⟩

theorem nb_of {hd hd2 : Int} {ps : List Pd} {n bb bh bm cap : Nat} {A : Option Addr} {z : List Pv} {W X : World} (hal : Own X bb 91 [.int .i64 0, .slice none 0 0, .slice none 0 0, .slice none 0 0, .map none]) (hsl : Own X bh 81 (List.replicate n (.slice none 0 0))) (hmp : X.heap[bm]? = some (.map #[] 0))
    (hog : OG X W.heap.size A cap z) (hIT : IsTrim hd ps hd2 (z.map Pv.p)) (hB : Below W.heap.size W X) (h7 : W.heap.size ≤ bb) (h4 : W.heap.size ≤ bh) (h5 : W.heap.size ≤ bm) (hE : hd2 = hd) :
    NB hd ps n W (.pointer (some ⟨bb, 0, none⟩)) (((((X.setCell ⟨bb, 0, none⟩ (.int .i64 hd)).setCell ⟨bb, 1, none⟩ (.slice A z.length cap)).setCell ⟨bb, 2, none⟩ (.slice (some ⟨bh, 0, none⟩) n n)).setCell ⟨bb, 3, none⟩ (.slice none 0 0)).setCell ⟨bb, 4, none⟩ (.map (some bm))) := by
  subst hE
  have hm : ∀ (Y : World) (i : Nat) (v : Value) (L : List Value), Own Y bb 91 L → Y.heap[bm]? = some (.map #[] 0) → (Y.setCell ⟨bb, i, none⟩ v).heap[bm]? = some (.map #[] 0) := fun Y i v L ho hmm =>
    (Below.heap_setCell Y ⟨bb, i, none⟩ v bm (fun e => by
      have e' : bm = bb := e
      unfold Own at ho
      rw [e', ho] at hmm
      cases hmm)).trans hmm
  have o1 := hal.set_ 0 (.int .i64 hd2)
  have o2 := o1.set_ 1 (.slice A z.length cap)
  have o3 := o2.set_ 2 (.slice (some ⟨bh, 0, none⟩) n n)
  have o4 := o3.set_ 3 (.slice none 0 0)
  have o5 := o4.set_ 4 (.map (some bm))
  have hne : bh ≠ bb := hsl.ne hal (by decide)
  refine ⟨bb, bh, bm, A, cap, z, rfl, h7, h4, h5, hIT, ⟨o5, hm _ _ _ _ o4 (hm _ _ _ _ o3 (hm _ _ _ _ o2 (hm _ _ _ _ o1 (hm _ _ _ _ hal hmp)))), ?_⟩, ?_, ?_⟩
  · exact ((((hog.far hal (by decide) (by decide) _).far o1 (by decide) (by decide) _).far o2 (by decide) (by decide) _).far o3 (by decide) (by decide) _).far o4 (by decide) (by decide) _
  · exact ((((hsl.far hne _).far hne _).far hne _).far hne _).far hne _
  · exact ((((hB.setCell h7 _).setCell h7 _).setCell h7 _).setCell h7 _).setCell h7 _

/-- What newChartBuilder leaves. -/
def NewPost (hd : Int) (ps : List Pd) (w : World) (e : Ending) (w' : World) : Prop :=
  (cfgOkB hd ps = false ∧ e = .returned (.tuple #[.pointer none, .bool false]) ∧ Below w.heap.size w w') ∨
  (cfgOkB hd ps = true ∧ ∃ bb bh bm A cap z, e = .returned (.tuple #[.pointer (some ⟨bb, 0, none⟩), .bool true]) ∧ w.heap.size ≤ bb ∧ w.heap.size ≤ bm ∧ IsTrim hd ps hd (z.map Pv.p) ∧ NC w.heap.size bb bm A cap z [.int .i64 hd, .slice A z.length cap, .slice (some ⟨bh, 0, none⟩) hd.toNat hd.toNat, .slice none 0 0, .map (some bm)] w' ∧ Below w.heap.size w w')

set_option maxRecDepth 100000 in
set_option maxHeartbeats 8000000 in
theorem new_any (hd : Int) (ps : List Pd) (a : Option Addr) (c : Nat) (w : World) (hr : Pds w a ps) (hm : ps.length ≤ 1048576) (hs : Small ps) :
    Calls Try.prog 44 #[.agg #[.int .i64 hd, .slice a ps.length c]] w (NewPost hd ps w) := by
  have hb0 : Below w.heap.size w (w.alloc (.cells #[.int .i64 hd, .slice a ps.length c] 33)) := below_box _
  have HR := Lib.hid (hr.keep hb0)
  have HS := Lib.hid hs
  clear hr hs
  have k0 : (w.alloc (.cells #[.int .i64 hd, .slice a ps.length c] 33)).cell? ⟨w.heap.size, 0, none⟩ = some (.int .i64 hd) := by simp
  have k1 : (w.alloc (.cells #[.int .i64 hd, .slice a ps.length c] 33)).cell? ⟨w.heap.size, 1, none⟩ = some (.slice a ps.length c) := by simp
  have HOK0 := Lib.hid (implOk_any hd ps a c _ HR.out hm HS.out)
  cases hok : cfgOkB hd ps
  · have HOK := Lib.hid hok
    rw [hok] at HOK0
    go_enter Try.func44, Try.ntmps44
    go_wp2_with fail
    refine HOK0.out.mono ?_
    rintro e w1 ⟨rfl, hb1⟩
    go_wp2
    refine bodyPost_ret (v := .tuple #[.pointer none, .bool false]) (by simp [results, Try.results44, go_sem]) rfl ?_
    exact Or.inl ⟨HOK.out, rfl, hb0.trans (hb1.mono hb0.size)⟩
  · have hd0 : 1 ≤ hd ∧ hd ≤ 200 := by unfold cfgOkB at hok; simp at hok; omega
    obtain ⟨n, rfl⟩ : ∃ n : Nat, hd = n := ⟨hd.toNat, by omega⟩
    have HOK := Lib.hid hok
    have hn1 : 1 ≤ n := by omega
    have hn2 : n ≤ 200 := by omega
    rw [hok] at HOK0
    clear hok hd0
    have hmk := run_make_row' (P := Try.prog) 88 81 (.slice none 0 0) 24 Try.underlying88 info33 rfl .i64 .i64 n (by omega) (by omega)
    have hmm := @run_makeMap Try.prog
    go_enter Try.func44, Try.ntmps44
    go_wp2_with fail
    refine HOK0.out.mono ?_
    rintro e W ⟨rfl, hb1⟩
    have HB1 : Hid (Below w.heap.size w W) := hb0.trans (hb1.mono hb0.size)
    replace k0 := cell_keep hb1 k0
    replace k1 := cell_keep hb1 k1
    have HR1 := Lib.hid (HR.out.keep hb1)
    have KLT := Lib.hid (cell_lt k0)
    have TRL : Hid (∀ X, Below W.heap.size W X → Calls Try.prog 62 #[.agg #[.int .i64 (n : Int), .slice a ps.length c]] X (TrimPost n ps X)) := fun X hb => implTrim_any n ps a c X (HR1.out.keep hb) hm HS.out
    clear hb0 hb1 HR HOK0
    go_upto_region 3 with fail
    go_cut [4] (fun p wx => NB (n : Int) ps n W p wx)
    case first =>
      go_wp2_with fail
      refine wp_region_held_drew (S := (fun X => X.cell? ⟨w.heap.size, 0, none⟩ = some (.int .i64 (n : Int)) ∧ X.cell? ⟨w.heap.size, 1, none⟩ = some (.slice a ps.length c))) (by kernel_rfl) ?_ (fun hHeld => ?_)
      · exact ⟨k0, k1⟩
      (first
        | (refine held_take (i := 0) (v := ?_) rfl (by kernel_rfl) (by kernel_rfl) (by kernel_rfl) (fun _ _ _ h => h) (Or.inl ⟨rfl, ?_⟩) (by assumption) ?_; rotate_left; (intro X hSw; (try dsimp only at hSw); (go_simp <;> with_reducible rfl)))
        | (refine held_take (i := 0) (v := undef) rfl (by kernel_rfl) (by kernel_rfl) (by kernel_rfl) (fun _ _ _ h => h) (Or.inr ⟨rfl, rfl⟩) (by assumption) ?_)); simp only [Act.put, List.setIfInBounds_toArray, List.set_cons_zero, List.set_cons_succ]
      (first
        | (refine held_take (i := 2) (v := ?_) rfl (by kernel_rfl) (by kernel_rfl) (by kernel_rfl) (fun _ _ _ h => h) (Or.inl ⟨rfl, ?_⟩) (by assumption) ?_; rotate_left; (intro X hSw; (try dsimp only at hSw); (go_simp <;> with_reducible rfl)))
        | (refine held_take (i := 2) (v := undef) rfl (by kernel_rfl) (by kernel_rfl) (by kernel_rfl) (fun _ _ _ h => h) (Or.inr ⟨rfl, rfl⟩) (by assumption) ?_)); simp only [Act.put, List.setIfInBounds_toArray, List.set_cons_zero, List.set_cons_succ]
      (first
        | (refine held_take (i := 3) (v := ?_) rfl (by kernel_rfl) (by kernel_rfl) (by kernel_rfl) (fun _ _ _ h => h) (Or.inl ⟨rfl, ?_⟩) (by assumption) ?_; rotate_left; (intro X hSw; (try dsimp only at hSw); (go_simp <;> with_reducible rfl)))
        | (refine held_take (i := 3) (v := undef) rfl (by kernel_rfl) (by kernel_rfl) (by kernel_rfl) (fun _ _ _ h => h) (Or.inr ⟨rfl, rfl⟩) (by assumption) ?_)); simp only [Act.put, List.setIfInBounds_toArray, List.set_cons_zero, List.set_cons_succ]
      have hB0 : Below W.heap.size W W.drew := (Below.refl _ _).drew
      refine wpAnyH_ready (rs := [1, 4, 5, 7]) (by kernel_rfl) (by simp) ?_
      refine AllReadyH.cons rfl (fun K hK => ?_) (AllReadyH.cons rfl (fun K hK => ?_) (AllReadyH.cons rfl (fun K hK => ?_) (AllReadyH.cons rfl (fun K hK => ?_) AllReadyH.nil)))
      · go_simp
        go_wp2_with (go_at_call 62; refine (TRL.out _ hB0).mono ?_; rintro e X1 ⟨hd2, A2, cap2, z2, rfl, hIT2, hog, hb⟩)
        refine hK.out _ _ ?_ (fun hHeld => ?_)
        · exact ⟨cell_keep hb (cell_keep hB0 k0), cell_keep hb (cell_keep hB0 k1)⟩
        clear hK K
        have hB1 : Below W.heap.size W X1 := hB0.trans (hb.mono hB0.size)
        replace hog := hog.base hB0.size
        clear hb
        refine wpAnyH_ready (rs := [4, 5, 7]) (by kernel_rfl) (by simp) ?_
        refine AllReadyH.cons rfl (fun K hK => ?_) (AllReadyH.cons rfl (fun K hK => ?_) (AllReadyH.cons rfl (fun K hK => ?_) AllReadyH.nil))
        · go_simp
          refine hK.out _ _ ?_ (fun hHeld => ?_)
          · exact ⟨cell_alloc (cell_keep hB1 k0) _, cell_alloc (cell_keep hB1 k1) _⟩
          clear hK K
          have hb : Below X1.heap.size X1 (X1.alloc (.cells (madeCells #[.slice none 0 0] n) 81)) := (below_box _)
          have hB2 : Below W.heap.size W (X1.alloc (.cells (madeCells #[.slice none 0 0] n) 81)) := hB1.trans (hb.mono hB1.size)
          have hsl : Own (X1.alloc (.cells (madeCells #[.slice none 0 0] n) 81)) X1.heap.size 81 (List.replicate n (.slice none 0 0)) := Own.made X1 81 (.slice none 0 0) n
          replace hog := hog.keep hb
          generalize (X1.alloc (.cells (madeCells #[.slice none 0 0] n) 81)) = X2 at *
          clear hb
          refine wpAnyH_ready (rs := [5, 7]) (by kernel_rfl) (by simp) ?_
          refine AllReadyH.cons rfl (fun K hK => ?_) (AllReadyH.cons rfl (fun K hK => ?_) AllReadyH.nil)
          · go_simp
            refine hK.out _ _ ?_ (fun hHeld => ?_)
            · exact ⟨cell_alloc (cell_keep hB2 k0) _, cell_alloc (cell_keep hB2 k1) _⟩
            clear hK K
            have hb : Below X2.heap.size X2 (X2.alloc (.map #[] 0)) := (below_box _)
            have hB3 : Below W.heap.size W (X2.alloc (.map #[] 0)) := hB2.trans (hb.mono hB2.size)
            have hmp : (X2.alloc (.map #[] 0)).heap[X2.heap.size]? = some (.map #[] 0) := (MapKept.heap_alloc X2 _).1
            replace hog := hog.keep hb
            replace hsl := hsl.keep hb
            generalize (X2.alloc (.map #[] 0)) = X3 at *
            clear hb
            (first
              | (refine held_take (i := 6) (v := ?_) rfl (by kernel_rfl) (by kernel_rfl) (by kernel_rfl) (fun _ _ _ h => h) (Or.inl ⟨rfl, ?_⟩) (by assumption) ?_; rotate_left; (intro X hSw; (try dsimp only at hSw); (go_simp <;> with_reducible rfl)))
              | (refine held_take (i := 6) (v := undef) rfl (by kernel_rfl) (by kernel_rfl) (by kernel_rfl) (fun _ _ _ h => h) (Or.inr ⟨rfl, rfl⟩) (by assumption) ?_)); simp only [Act.put, List.setIfInBounds_toArray, List.set_cons_zero, List.set_cons_succ]
            refine wpAnyH_ready (rs := [7]) (by kernel_rfl) (by simp) ?_
            refine AllReadyH.cons rfl (fun K hK => ?_) AllReadyH.nil
            · go_simp
              refine hK.out _ _ ?_ (fun hHeld => ?_)
              · exact ⟨cell_alloc (cell_keep hB3 k0) _, cell_alloc (cell_keep hB3 k1) _⟩
              clear hK K
              have hb : Below X3.heap.size X3 (X3.alloc (.cells #[.int .i64 0, .slice none 0 0, .slice none 0 0, .slice none 0 0, .map none] 91)) := (below_box _)
              have hB4 : Below W.heap.size W (X3.alloc (.cells #[.int .i64 0, .slice none 0 0, .slice none 0 0, .slice none 0 0, .map none] 91)) := hB3.trans (hb.mono hB3.size)
              have hal : Own (X3.alloc (.cells #[.int .i64 0, .slice none 0 0, .slice none 0 0, .slice none 0 0, .map none] 91)) X3.heap.size 91 [.int .i64 0, .slice none 0 0, .slice none 0 0, .slice none 0 0, .map none] := Own.new X3 91 #[.int .i64 0, .slice none 0 0, .slice none 0 0, .slice none 0 0, .map none]
              replace hog := hog.keep hb
              replace hsl := hsl.keep hb
              replace hmp := (hb.block _ (Array.getElem?_eq_some_iff.1 hmp).1).trans hmp
              generalize (X3.alloc (.cells #[.int .i64 0, .slice none 0 0, .slice none 0 0, .slice none 0 0, .map none] 91)) = X4 at *
              clear hb
              have a0 : X4.cell? ⟨X3.heap.size, 0, none⟩ = some (.int .i64 0) := by rw [hal.cell]; rfl
              have a1 : X4.cell? ⟨X3.heap.size, 1, none⟩ = some (.slice none 0 0) := by rw [hal.cell]; rfl
              have a2 : X4.cell? ⟨X3.heap.size, 2, none⟩ = some (.slice none 0 0) := by rw [hal.cell]; rfl
              have a3 : X4.cell? ⟨X3.heap.size, 3, none⟩ = some (.slice none 0 0) := by rw [hal.cell]; rfl
              have a4 : X4.cell? ⟨X3.heap.size, 4, none⟩ = some (.map none) := by rw [hal.cell]; rfl
              have f0 := hal.frozen 0
              have f1 := hal.frozen 1
              have f2 := hal.frozen 2
              have f3 := hal.frozen 3
              have f4 := hal.frozen 4
              have hlt7 := hal.lt
              have REL := Lib.hid (nb_of hal hsl hmp hog hIT2 hB4 hB3.size hB1.size hB2.size (hIT2.ok HOK.out).1)
              have SX := Lib.hid (set5_cells (X := X4) (g := X3.heap.size) (cell_keep hB4 k0) (cell_keep hB4 k1) (by have := hB3.size; have := KLT.out; simp at this ⊢; omega) (.int .i64 (n : Int)) (.slice A2 z2.length cap2) (.slice (some ⟨X1.heap.size, 0, none⟩) n n) (.slice none 0 0) (.map (some X2.heap.size)))
              have HDE := Lib.hid (hIT2.ok HOK.out).1
              refine wpAnyH_ready (rs := [8]) (by kernel_rfl) (by simp) ?_
              refine AllReadyH.cons rfl (fun K hK => ?_) AllReadyH.nil
              clear hal hsl hmp hog hIT2 hB1 hB2 hB3 hB4
              obtain rfl : hd2 = (n : Int) := HDE.out
              go_simp
              refine hK.out _ _ ?_ (fun hHeld => ?_)
              · exact SX.out
              clear hK K
              refine wpAnyH_done (by kernel_rfl) ?_ _
              go_wp2_with fail
              go_meet
              exact REL.out
          · go_simp
            refine hK.out _ _ ?_ (fun hHeld => ?_)
            · exact ⟨cell_alloc (cell_keep hB2 k0) _, cell_alloc (cell_keep hB2 k1) _⟩
            clear hK K
            have hb : Below X2.heap.size X2 (X2.alloc (.cells #[.int .i64 0, .slice none 0 0, .slice none 0 0, .slice none 0 0, .map none] 91)) := (below_box _)
            have hB3 : Below W.heap.size W (X2.alloc (.cells #[.int .i64 0, .slice none 0 0, .slice none 0 0, .slice none 0 0, .map none] 91)) := hB2.trans (hb.mono hB2.size)
            have hal : Own (X2.alloc (.cells #[.int .i64 0, .slice none 0 0, .slice none 0 0, .slice none 0 0, .map none] 91)) X2.heap.size 91 [.int .i64 0, .slice none 0 0, .slice none 0 0, .slice none 0 0, .map none] := Own.new X2 91 #[.int .i64 0, .slice none 0 0, .slice none 0 0, .slice none 0 0, .map none]
            replace hog := hog.keep hb
            replace hsl := hsl.keep hb
            generalize (X2.alloc (.cells #[.int .i64 0, .slice none 0 0, .slice none 0 0, .slice none 0 0, .map none] 91)) = X3 at *
            clear hb
            refine wpAnyH_ready (rs := [5]) (by kernel_rfl) (by simp) ?_
            refine AllReadyH.cons rfl (fun K hK => ?_) AllReadyH.nil
            · go_simp
              refine hK.out _ _ ?_ (fun hHeld => ?_)
              · exact ⟨cell_alloc (cell_keep hB3 k0) _, cell_alloc (cell_keep hB3 k1) _⟩
              clear hK K
              have hb : Below X3.heap.size X3 (X3.alloc (.map #[] 0)) := (below_box _)
              have hB4 : Below W.heap.size W (X3.alloc (.map #[] 0)) := hB3.trans (hb.mono hB3.size)
              have hmp : (X3.alloc (.map #[] 0)).heap[X3.heap.size]? = some (.map #[] 0) := (MapKept.heap_alloc X3 _).1
              replace hog := hog.keep hb
              replace hsl := hsl.keep hb
              replace hal := hal.keep hb
              generalize (X3.alloc (.map #[] 0)) = X4 at *
              clear hb
              (first
                | (refine held_take (i := 6) (v := ?_) rfl (by kernel_rfl) (by kernel_rfl) (by kernel_rfl) (fun _ _ _ h => h) (Or.inl ⟨rfl, ?_⟩) (by assumption) ?_; rotate_left; (intro X hSw; (try dsimp only at hSw); (go_simp <;> with_reducible rfl)))
                | (refine held_take (i := 6) (v := undef) rfl (by kernel_rfl) (by kernel_rfl) (by kernel_rfl) (fun _ _ _ h => h) (Or.inr ⟨rfl, rfl⟩) (by assumption) ?_)); simp only [Act.put, List.setIfInBounds_toArray, List.set_cons_zero, List.set_cons_succ]
              have a0 : X4.cell? ⟨X2.heap.size, 0, none⟩ = some (.int .i64 0) := by rw [hal.cell]; rfl
              have a1 : X4.cell? ⟨X2.heap.size, 1, none⟩ = some (.slice none 0 0) := by rw [hal.cell]; rfl
              have a2 : X4.cell? ⟨X2.heap.size, 2, none⟩ = some (.slice none 0 0) := by rw [hal.cell]; rfl
              have a3 : X4.cell? ⟨X2.heap.size, 3, none⟩ = some (.slice none 0 0) := by rw [hal.cell]; rfl
              have a4 : X4.cell? ⟨X2.heap.size, 4, none⟩ = some (.map none) := by rw [hal.cell]; rfl
              have f0 := hal.frozen 0
              have f1 := hal.frozen 1
              have f2 := hal.frozen 2
              have f3 := hal.frozen 3
              have f4 := hal.frozen 4
              have hlt7 := hal.lt
              have REL := Lib.hid (nb_of hal hsl hmp hog hIT2 hB4 hB2.size hB1.size hB3.size (hIT2.ok HOK.out).1)
              have SX := Lib.hid (set5_cells (X := X4) (g := X2.heap.size) (cell_keep hB4 k0) (cell_keep hB4 k1) (by have := hB2.size; have := KLT.out; simp at this ⊢; omega) (.int .i64 (n : Int)) (.slice A2 z2.length cap2) (.slice (some ⟨X1.heap.size, 0, none⟩) n n) (.slice none 0 0) (.map (some X3.heap.size)))
              have HDE := Lib.hid (hIT2.ok HOK.out).1
              refine wpAnyH_ready (rs := [8]) (by kernel_rfl) (by simp) ?_
              refine AllReadyH.cons rfl (fun K hK => ?_) AllReadyH.nil
              clear hal hsl hmp hog hIT2 hB1 hB2 hB3 hB4
              obtain rfl : hd2 = (n : Int) := HDE.out
              go_simp
              refine hK.out _ _ ?_ (fun hHeld => ?_)
              · exact SX.out
              clear hK K
              refine wpAnyH_done (by kernel_rfl) ?_ _
              go_wp2_with fail
              go_meet
              exact REL.out
        · go_simp
          refine hK.out _ _ ?_ (fun hHeld => ?_)
          · exact ⟨cell_alloc (cell_keep hB1 k0) _, cell_alloc (cell_keep hB1 k1) _⟩
          clear hK K
          have hb : Below X1.heap.size X1 (X1.alloc (.map #[] 0)) := (below_box _)
          have hB2 : Below W.heap.size W (X1.alloc (.map #[] 0)) := hB1.trans (hb.mono hB1.size)
          have hmp : (X1.alloc (.map #[] 0)).heap[X1.heap.size]? = some (.map #[] 0) := (MapKept.heap_alloc X1 _).1
          replace hog := hog.keep hb
          generalize (X1.alloc (.map #[] 0)) = X2 at *
          clear hb
          refine wpAnyH_ready (rs := [4, 7]) (by kernel_rfl) (by simp) ?_
          refine AllReadyH.cons rfl (fun K hK => ?_) (AllReadyH.cons rfl (fun K hK => ?_) AllReadyH.nil)
          · go_simp
            refine hK.out _ _ ?_ (fun hHeld => ?_)
            · exact ⟨cell_alloc (cell_keep hB2 k0) _, cell_alloc (cell_keep hB2 k1) _⟩
            clear hK K
            have hb : Below X2.heap.size X2 (X2.alloc (.cells (madeCells #[.slice none 0 0] n) 81)) := (below_box _)
            have hB3 : Below W.heap.size W (X2.alloc (.cells (madeCells #[.slice none 0 0] n) 81)) := hB2.trans (hb.mono hB2.size)
            have hsl : Own (X2.alloc (.cells (madeCells #[.slice none 0 0] n) 81)) X2.heap.size 81 (List.replicate n (.slice none 0 0)) := Own.made X2 81 (.slice none 0 0) n
            replace hog := hog.keep hb
            replace hmp := (hb.block _ (Array.getElem?_eq_some_iff.1 hmp).1).trans hmp
            generalize (X2.alloc (.cells (madeCells #[.slice none 0 0] n) 81)) = X3 at *
            clear hb
            (first
              | (refine held_take (i := 6) (v := ?_) rfl (by kernel_rfl) (by kernel_rfl) (by kernel_rfl) (fun _ _ _ h => h) (Or.inl ⟨rfl, ?_⟩) (by assumption) ?_; rotate_left; (intro X hSw; (try dsimp only at hSw); (go_simp <;> with_reducible rfl)))
              | (refine held_take (i := 6) (v := undef) rfl (by kernel_rfl) (by kernel_rfl) (by kernel_rfl) (fun _ _ _ h => h) (Or.inr ⟨rfl, rfl⟩) (by assumption) ?_)); simp only [Act.put, List.setIfInBounds_toArray, List.set_cons_zero, List.set_cons_succ]
            refine wpAnyH_ready (rs := [7]) (by kernel_rfl) (by simp) ?_
            refine AllReadyH.cons rfl (fun K hK => ?_) AllReadyH.nil
            · go_simp
              refine hK.out _ _ ?_ (fun hHeld => ?_)
              · exact ⟨cell_alloc (cell_keep hB3 k0) _, cell_alloc (cell_keep hB3 k1) _⟩
              clear hK K
              have hb : Below X3.heap.size X3 (X3.alloc (.cells #[.int .i64 0, .slice none 0 0, .slice none 0 0, .slice none 0 0, .map none] 91)) := (below_box _)
              have hB4 : Below W.heap.size W (X3.alloc (.cells #[.int .i64 0, .slice none 0 0, .slice none 0 0, .slice none 0 0, .map none] 91)) := hB3.trans (hb.mono hB3.size)
              have hal : Own (X3.alloc (.cells #[.int .i64 0, .slice none 0 0, .slice none 0 0, .slice none 0 0, .map none] 91)) X3.heap.size 91 [.int .i64 0, .slice none 0 0, .slice none 0 0, .slice none 0 0, .map none] := Own.new X3 91 #[.int .i64 0, .slice none 0 0, .slice none 0 0, .slice none 0 0, .map none]
              replace hog := hog.keep hb
              replace hsl := hsl.keep hb
              replace hmp := (hb.block _ (Array.getElem?_eq_some_iff.1 hmp).1).trans hmp
              generalize (X3.alloc (.cells #[.int .i64 0, .slice none 0 0, .slice none 0 0, .slice none 0 0, .map none] 91)) = X4 at *
              clear hb
              have a0 : X4.cell? ⟨X3.heap.size, 0, none⟩ = some (.int .i64 0) := by rw [hal.cell]; rfl
              have a1 : X4.cell? ⟨X3.heap.size, 1, none⟩ = some (.slice none 0 0) := by rw [hal.cell]; rfl
              have a2 : X4.cell? ⟨X3.heap.size, 2, none⟩ = some (.slice none 0 0) := by rw [hal.cell]; rfl
              have a3 : X4.cell? ⟨X3.heap.size, 3, none⟩ = some (.slice none 0 0) := by rw [hal.cell]; rfl
              have a4 : X4.cell? ⟨X3.heap.size, 4, none⟩ = some (.map none) := by rw [hal.cell]; rfl
              have f0 := hal.frozen 0
              have f1 := hal.frozen 1
              have f2 := hal.frozen 2
              have f3 := hal.frozen 3
              have f4 := hal.frozen 4
              have hlt7 := hal.lt
              have REL := Lib.hid (nb_of hal hsl hmp hog hIT2 hB4 hB3.size hB2.size hB1.size (hIT2.ok HOK.out).1)
              have SX := Lib.hid (set5_cells (X := X4) (g := X3.heap.size) (cell_keep hB4 k0) (cell_keep hB4 k1) (by have := hB3.size; have := KLT.out; simp at this ⊢; omega) (.int .i64 (n : Int)) (.slice A2 z2.length cap2) (.slice (some ⟨X2.heap.size, 0, none⟩) n n) (.slice none 0 0) (.map (some X1.heap.size)))
              have HDE := Lib.hid (hIT2.ok HOK.out).1
              refine wpAnyH_ready (rs := [8]) (by kernel_rfl) (by simp) ?_
              refine AllReadyH.cons rfl (fun K hK => ?_) AllReadyH.nil
              clear hal hsl hmp hog hIT2 hB1 hB2 hB3 hB4
              obtain rfl : hd2 = (n : Int) := HDE.out
              go_simp
              refine hK.out _ _ ?_ (fun hHeld => ?_)
              · exact SX.out
              clear hK K
              refine wpAnyH_done (by kernel_rfl) ?_ _
              go_wp2_with fail
              go_meet
              exact REL.out
          · go_simp
            refine hK.out _ _ ?_ (fun hHeld => ?_)
            · exact ⟨cell_alloc (cell_keep hB2 k0) _, cell_alloc (cell_keep hB2 k1) _⟩
            clear hK K
            have hb : Below X2.heap.size X2 (X2.alloc (.cells #[.int .i64 0, .slice none 0 0, .slice none 0 0, .slice none 0 0, .map none] 91)) := (below_box _)
            have hB3 : Below W.heap.size W (X2.alloc (.cells #[.int .i64 0, .slice none 0 0, .slice none 0 0, .slice none 0 0, .map none] 91)) := hB2.trans (hb.mono hB2.size)
            have hal : Own (X2.alloc (.cells #[.int .i64 0, .slice none 0 0, .slice none 0 0, .slice none 0 0, .map none] 91)) X2.heap.size 91 [.int .i64 0, .slice none 0 0, .slice none 0 0, .slice none 0 0, .map none] := Own.new X2 91 #[.int .i64 0, .slice none 0 0, .slice none 0 0, .slice none 0 0, .map none]
            replace hog := hog.keep hb
            replace hmp := (hb.block _ (Array.getElem?_eq_some_iff.1 hmp).1).trans hmp
            generalize (X2.alloc (.cells #[.int .i64 0, .slice none 0 0, .slice none 0 0, .slice none 0 0, .map none] 91)) = X3 at *
            clear hb
            refine wpAnyH_ready (rs := [4]) (by kernel_rfl) (by simp) ?_
            refine AllReadyH.cons rfl (fun K hK => ?_) AllReadyH.nil
            · go_simp
              refine hK.out _ _ ?_ (fun hHeld => ?_)
              · exact ⟨cell_alloc (cell_keep hB3 k0) _, cell_alloc (cell_keep hB3 k1) _⟩
              clear hK K
              have hb : Below X3.heap.size X3 (X3.alloc (.cells (madeCells #[.slice none 0 0] n) 81)) := (below_box _)
              have hB4 : Below W.heap.size W (X3.alloc (.cells (madeCells #[.slice none 0 0] n) 81)) := hB3.trans (hb.mono hB3.size)
              have hsl : Own (X3.alloc (.cells (madeCells #[.slice none 0 0] n) 81)) X3.heap.size 81 (List.replicate n (.slice none 0 0)) := Own.made X3 81 (.slice none 0 0) n
              replace hog := hog.keep hb
              replace hmp := (hb.block _ (Array.getElem?_eq_some_iff.1 hmp).1).trans hmp
              replace hal := hal.keep hb
              generalize (X3.alloc (.cells (madeCells #[.slice none 0 0] n) 81)) = X4 at *
              clear hb
              (first
                | (refine held_take (i := 6) (v := ?_) rfl (by kernel_rfl) (by kernel_rfl) (by kernel_rfl) (fun _ _ _ h => h) (Or.inl ⟨rfl, ?_⟩) (by assumption) ?_; rotate_left; (intro X hSw; (try dsimp only at hSw); (go_simp <;> with_reducible rfl)))
                | (refine held_take (i := 6) (v := undef) rfl (by kernel_rfl) (by kernel_rfl) (by kernel_rfl) (fun _ _ _ h => h) (Or.inr ⟨rfl, rfl⟩) (by assumption) ?_)); simp only [Act.put, List.setIfInBounds_toArray, List.set_cons_zero, List.set_cons_succ]
              have a0 : X4.cell? ⟨X2.heap.size, 0, none⟩ = some (.int .i64 0) := by rw [hal.cell]; rfl
              have a1 : X4.cell? ⟨X2.heap.size, 1, none⟩ = some (.slice none 0 0) := by rw [hal.cell]; rfl
              have a2 : X4.cell? ⟨X2.heap.size, 2, none⟩ = some (.slice none 0 0) := by rw [hal.cell]; rfl
              have a3 : X4.cell? ⟨X2.heap.size, 3, none⟩ = some (.slice none 0 0) := by rw [hal.cell]; rfl
              have a4 : X4.cell? ⟨X2.heap.size, 4, none⟩ = some (.map none) := by rw [hal.cell]; rfl
              have f0 := hal.frozen 0
              have f1 := hal.frozen 1
              have f2 := hal.frozen 2
              have f3 := hal.frozen 3
              have f4 := hal.frozen 4
              have hlt7 := hal.lt
              have REL := Lib.hid (nb_of hal hsl hmp hog hIT2 hB4 hB2.size hB3.size hB1.size (hIT2.ok HOK.out).1)
              have SX := Lib.hid (set5_cells (X := X4) (g := X2.heap.size) (cell_keep hB4 k0) (cell_keep hB4 k1) (by have := hB2.size; have := KLT.out; simp at this ⊢; omega) (.int .i64 (n : Int)) (.slice A2 z2.length cap2) (.slice (some ⟨X3.heap.size, 0, none⟩) n n) (.slice none 0 0) (.map (some X1.heap.size)))
              have HDE := Lib.hid (hIT2.ok HOK.out).1
              refine wpAnyH_ready (rs := [8]) (by kernel_rfl) (by simp) ?_
              refine AllReadyH.cons rfl (fun K hK => ?_) AllReadyH.nil
              clear hal hsl hmp hog hIT2 hB1 hB2 hB3 hB4
              obtain rfl : hd2 = (n : Int) := HDE.out
              go_simp
              refine hK.out _ _ ?_ (fun hHeld => ?_)
              · exact SX.out
              clear hK K
              refine wpAnyH_done (by kernel_rfl) ?_ _
              go_wp2_with fail
              go_meet
              exact REL.out
        · go_simp
          refine hK.out _ _ ?_ (fun hHeld => ?_)
          · exact ⟨cell_alloc (cell_keep hB1 k0) _, cell_alloc (cell_keep hB1 k1) _⟩
          clear hK K
          have hb : Below X1.heap.size X1 (X1.alloc (.cells #[.int .i64 0, .slice none 0 0, .slice none 0 0, .slice none 0 0, .map none] 91)) := (below_box _)
          have hB2 : Below W.heap.size W (X1.alloc (.cells #[.int .i64 0, .slice none 0 0, .slice none 0 0, .slice none 0 0, .map none] 91)) := hB1.trans (hb.mono hB1.size)
          have hal : Own (X1.alloc (.cells #[.int .i64 0, .slice none 0 0, .slice none 0 0, .slice none 0 0, .map none] 91)) X1.heap.size 91 [.int .i64 0, .slice none 0 0, .slice none 0 0, .slice none 0 0, .map none] := Own.new X1 91 #[.int .i64 0, .slice none 0 0, .slice none 0 0, .slice none 0 0, .map none]
          replace hog := hog.keep hb
          generalize (X1.alloc (.cells #[.int .i64 0, .slice none 0 0, .slice none 0 0, .slice none 0 0, .map none] 91)) = X2 at *
          clear hb
          refine wpAnyH_ready (rs := [4, 5]) (by kernel_rfl) (by simp) ?_
          refine AllReadyH.cons rfl (fun K hK => ?_) (AllReadyH.cons rfl (fun K hK => ?_) AllReadyH.nil)
          · go_simp
            refine hK.out _ _ ?_ (fun hHeld => ?_)
            · exact ⟨cell_alloc (cell_keep hB2 k0) _, cell_alloc (cell_keep hB2 k1) _⟩
            clear hK K
            have hb : Below X2.heap.size X2 (X2.alloc (.cells (madeCells #[.slice none 0 0] n) 81)) := (below_box _)
            have hB3 : Below W.heap.size W (X2.alloc (.cells (madeCells #[.slice none 0 0] n) 81)) := hB2.trans (hb.mono hB2.size)
            have hsl : Own (X2.alloc (.cells (madeCells #[.slice none 0 0] n) 81)) X2.heap.size 81 (List.replicate n (.slice none 0 0)) := Own.made X2 81 (.slice none 0 0) n
            replace hog := hog.keep hb
            replace hal := hal.keep hb
            generalize (X2.alloc (.cells (madeCells #[.slice none 0 0] n) 81)) = X3 at *
            clear hb
            refine wpAnyH_ready (rs := [5]) (by kernel_rfl) (by simp) ?_
            refine AllReadyH.cons rfl (fun K hK => ?_) AllReadyH.nil
            · go_simp
              refine hK.out _ _ ?_ (fun hHeld => ?_)
              · exact ⟨cell_alloc (cell_keep hB3 k0) _, cell_alloc (cell_keep hB3 k1) _⟩
              clear hK K
              have hb : Below X3.heap.size X3 (X3.alloc (.map #[] 0)) := (below_box _)
              have hB4 : Below W.heap.size W (X3.alloc (.map #[] 0)) := hB3.trans (hb.mono hB3.size)
              have hmp : (X3.alloc (.map #[] 0)).heap[X3.heap.size]? = some (.map #[] 0) := (MapKept.heap_alloc X3 _).1
              replace hog := hog.keep hb
              replace hsl := hsl.keep hb
              replace hal := hal.keep hb
              generalize (X3.alloc (.map #[] 0)) = X4 at *
              clear hb
              (first
                | (refine held_take (i := 6) (v := ?_) rfl (by kernel_rfl) (by kernel_rfl) (by kernel_rfl) (fun _ _ _ h => h) (Or.inl ⟨rfl, ?_⟩) (by assumption) ?_; rotate_left; (intro X hSw; (try dsimp only at hSw); (go_simp <;> with_reducible rfl)))
                | (refine held_take (i := 6) (v := undef) rfl (by kernel_rfl) (by kernel_rfl) (by kernel_rfl) (fun _ _ _ h => h) (Or.inr ⟨rfl, rfl⟩) (by assumption) ?_)); simp only [Act.put, List.setIfInBounds_toArray, List.set_cons_zero, List.set_cons_succ]
              have a0 : X4.cell? ⟨X1.heap.size, 0, none⟩ = some (.int .i64 0) := by rw [hal.cell]; rfl
              have a1 : X4.cell? ⟨X1.heap.size, 1, none⟩ = some (.slice none 0 0) := by rw [hal.cell]; rfl
              have a2 : X4.cell? ⟨X1.heap.size, 2, none⟩ = some (.slice none 0 0) := by rw [hal.cell]; rfl
              have a3 : X4.cell? ⟨X1.heap.size, 3, none⟩ = some (.slice none 0 0) := by rw [hal.cell]; rfl
              have a4 : X4.cell? ⟨X1.heap.size, 4, none⟩ = some (.map none) := by rw [hal.cell]; rfl
              have f0 := hal.frozen 0
              have f1 := hal.frozen 1
              have f2 := hal.frozen 2
              have f3 := hal.frozen 3
              have f4 := hal.frozen 4
              have hlt7 := hal.lt
              have REL := Lib.hid (nb_of hal hsl hmp hog hIT2 hB4 hB1.size hB2.size hB3.size (hIT2.ok HOK.out).1)
              have SX := Lib.hid (set5_cells (X := X4) (g := X1.heap.size) (cell_keep hB4 k0) (cell_keep hB4 k1) (by have := hB1.size; have := KLT.out; simp at this ⊢; omega) (.int .i64 (n : Int)) (.slice A2 z2.length cap2) (.slice (some ⟨X2.heap.size, 0, none⟩) n n) (.slice none 0 0) (.map (some X3.heap.size)))
              have HDE := Lib.hid (hIT2.ok HOK.out).1
              refine wpAnyH_ready (rs := [8]) (by kernel_rfl) (by simp) ?_
              refine AllReadyH.cons rfl (fun K hK => ?_) AllReadyH.nil
              clear hal hsl hmp hog hIT2 hB1 hB2 hB3 hB4
              obtain rfl : hd2 = (n : Int) := HDE.out
              go_simp
              refine hK.out _ _ ?_ (fun hHeld => ?_)
              · exact SX.out
              clear hK K
              refine wpAnyH_done (by kernel_rfl) ?_ _
              go_wp2_with fail
              go_meet
              exact REL.out
          · go_simp
            refine hK.out _ _ ?_ (fun hHeld => ?_)
            · exact ⟨cell_alloc (cell_keep hB2 k0) _, cell_alloc (cell_keep hB2 k1) _⟩
            clear hK K
            have hb : Below X2.heap.size X2 (X2.alloc (.map #[] 0)) := (below_box _)
            have hB3 : Below W.heap.size W (X2.alloc (.map #[] 0)) := hB2.trans (hb.mono hB2.size)
            have hmp : (X2.alloc (.map #[] 0)).heap[X2.heap.size]? = some (.map #[] 0) := (MapKept.heap_alloc X2 _).1
            replace hog := hog.keep hb
            replace hal := hal.keep hb
            generalize (X2.alloc (.map #[] 0)) = X3 at *
            clear hb
            refine wpAnyH_ready (rs := [4]) (by kernel_rfl) (by simp) ?_
            refine AllReadyH.cons rfl (fun K hK => ?_) AllReadyH.nil
            · go_simp
              refine hK.out _ _ ?_ (fun hHeld => ?_)
              · exact ⟨cell_alloc (cell_keep hB3 k0) _, cell_alloc (cell_keep hB3 k1) _⟩
              clear hK K
              have hb : Below X3.heap.size X3 (X3.alloc (.cells (madeCells #[.slice none 0 0] n) 81)) := (below_box _)
              have hB4 : Below W.heap.size W (X3.alloc (.cells (madeCells #[.slice none 0 0] n) 81)) := hB3.trans (hb.mono hB3.size)
              have hsl : Own (X3.alloc (.cells (madeCells #[.slice none 0 0] n) 81)) X3.heap.size 81 (List.replicate n (.slice none 0 0)) := Own.made X3 81 (.slice none 0 0) n
              replace hog := hog.keep hb
              replace hmp := (hb.block _ (Array.getElem?_eq_some_iff.1 hmp).1).trans hmp
              replace hal := hal.keep hb
              generalize (X3.alloc (.cells (madeCells #[.slice none 0 0] n) 81)) = X4 at *
              clear hb
              (first
                | (refine held_take (i := 6) (v := ?_) rfl (by kernel_rfl) (by kernel_rfl) (by kernel_rfl) (fun _ _ _ h => h) (Or.inl ⟨rfl, ?_⟩) (by assumption) ?_; rotate_left; (intro X hSw; (try dsimp only at hSw); (go_simp <;> with_reducible rfl)))
                | (refine held_take (i := 6) (v := undef) rfl (by kernel_rfl) (by kernel_rfl) (by kernel_rfl) (fun _ _ _ h => h) (Or.inr ⟨rfl, rfl⟩) (by assumption) ?_)); simp only [Act.put, List.setIfInBounds_toArray, List.set_cons_zero, List.set_cons_succ]
              have a0 : X4.cell? ⟨X1.heap.size, 0, none⟩ = some (.int .i64 0) := by rw [hal.cell]; rfl
              have a1 : X4.cell? ⟨X1.heap.size, 1, none⟩ = some (.slice none 0 0) := by rw [hal.cell]; rfl
              have a2 : X4.cell? ⟨X1.heap.size, 2, none⟩ = some (.slice none 0 0) := by rw [hal.cell]; rfl
              have a3 : X4.cell? ⟨X1.heap.size, 3, none⟩ = some (.slice none 0 0) := by rw [hal.cell]; rfl
              have a4 : X4.cell? ⟨X1.heap.size, 4, none⟩ = some (.map none) := by rw [hal.cell]; rfl
              have f0 := hal.frozen 0
              have f1 := hal.frozen 1
              have f2 := hal.frozen 2
              have f3 := hal.frozen 3
              have f4 := hal.frozen 4
              have hlt7 := hal.lt
              have REL := Lib.hid (nb_of hal hsl hmp hog hIT2 hB4 hB1.size hB3.size hB2.size (hIT2.ok HOK.out).1)
              have SX := Lib.hid (set5_cells (X := X4) (g := X1.heap.size) (cell_keep hB4 k0) (cell_keep hB4 k1) (by have := hB1.size; have := KLT.out; simp at this ⊢; omega) (.int .i64 (n : Int)) (.slice A2 z2.length cap2) (.slice (some ⟨X3.heap.size, 0, none⟩) n n) (.slice none 0 0) (.map (some X2.heap.size)))
              have HDE := Lib.hid (hIT2.ok HOK.out).1
              refine wpAnyH_ready (rs := [8]) (by kernel_rfl) (by simp) ?_
              refine AllReadyH.cons rfl (fun K hK => ?_) AllReadyH.nil
              clear hal hsl hmp hog hIT2 hB1 hB2 hB3 hB4
              obtain rfl : hd2 = (n : Int) := HDE.out
              go_simp
              refine hK.out _ _ ?_ (fun hHeld => ?_)
              · exact SX.out
              clear hK K
              refine wpAnyH_done (by kernel_rfl) ?_ _
              go_wp2_with fail
              go_meet
              exact REL.out
      · go_simp
        refine hK.out _ _ ?_ (fun hHeld => ?_)
        · exact ⟨cell_alloc (cell_keep (Below.refl W.heap.size W) k0) _, cell_alloc (cell_keep (Below.refl W.heap.size W) k1) _⟩
        clear hK K
        have hb : Below W.heap.size W (W.alloc (.cells (madeCells #[.slice none 0 0] n) 81)).drew := (below_box _).drew
        have hB1 : Below W.heap.size W (W.alloc (.cells (madeCells #[.slice none 0 0] n) 81)).drew := (Below.refl W.heap.size W).trans (hb.mono (Below.refl W.heap.size W).size)
        have hsl : Own (W.alloc (.cells (madeCells #[.slice none 0 0] n) 81)).drew W.heap.size 81 (List.replicate n (.slice none 0 0)) := Own.made W 81 (.slice none 0 0) n
        generalize (W.alloc (.cells (madeCells #[.slice none 0 0] n) 81)).drew = X1 at *
        clear hb
        refine wpAnyH_ready (rs := [1, 5, 7]) (by kernel_rfl) (by simp) ?_
        refine AllReadyH.cons rfl (fun K hK => ?_) (AllReadyH.cons rfl (fun K hK => ?_) (AllReadyH.cons rfl (fun K hK => ?_) AllReadyH.nil))
        · go_simp
          go_wp2_with (go_at_call 62; refine (TRL.out _ hB1).mono ?_; rintro e X2 ⟨hd2, A2, cap2, z2, rfl, hIT2, hog, hb⟩)
          refine hK.out _ _ ?_ (fun hHeld => ?_)
          · exact ⟨cell_keep hb (cell_keep hB1 k0), cell_keep hb (cell_keep hB1 k1)⟩
          clear hK K
          have hB2 : Below W.heap.size W X2 := hB1.trans (hb.mono hB1.size)
          replace hog := hog.base hB1.size
          replace hsl := hsl.keep hb
          clear hb
          refine wpAnyH_ready (rs := [5, 7]) (by kernel_rfl) (by simp) ?_
          refine AllReadyH.cons rfl (fun K hK => ?_) (AllReadyH.cons rfl (fun K hK => ?_) AllReadyH.nil)
          · go_simp
            refine hK.out _ _ ?_ (fun hHeld => ?_)
            · exact ⟨cell_alloc (cell_keep hB2 k0) _, cell_alloc (cell_keep hB2 k1) _⟩
            clear hK K
            have hb : Below X2.heap.size X2 (X2.alloc (.map #[] 0)) := (below_box _)
            have hB3 : Below W.heap.size W (X2.alloc (.map #[] 0)) := hB2.trans (hb.mono hB2.size)
            have hmp : (X2.alloc (.map #[] 0)).heap[X2.heap.size]? = some (.map #[] 0) := (MapKept.heap_alloc X2 _).1
            replace hog := hog.keep hb
            replace hsl := hsl.keep hb
            generalize (X2.alloc (.map #[] 0)) = X3 at *
            clear hb
            (first
              | (refine held_take (i := 6) (v := ?_) rfl (by kernel_rfl) (by kernel_rfl) (by kernel_rfl) (fun _ _ _ h => h) (Or.inl ⟨rfl, ?_⟩) (by assumption) ?_; rotate_left; (intro X hSw; (try dsimp only at hSw); (go_simp <;> with_reducible rfl)))
              | (refine held_take (i := 6) (v := undef) rfl (by kernel_rfl) (by kernel_rfl) (by kernel_rfl) (fun _ _ _ h => h) (Or.inr ⟨rfl, rfl⟩) (by assumption) ?_)); simp only [Act.put, List.setIfInBounds_toArray, List.set_cons_zero, List.set_cons_succ]
            refine wpAnyH_ready (rs := [7]) (by kernel_rfl) (by simp) ?_
            refine AllReadyH.cons rfl (fun K hK => ?_) AllReadyH.nil
            · go_simp
              refine hK.out _ _ ?_ (fun hHeld => ?_)
              · exact ⟨cell_alloc (cell_keep hB3 k0) _, cell_alloc (cell_keep hB3 k1) _⟩
              clear hK K
              have hb : Below X3.heap.size X3 (X3.alloc (.cells #[.int .i64 0, .slice none 0 0, .slice none 0 0, .slice none 0 0, .map none] 91)) := (below_box _)
              have hB4 : Below W.heap.size W (X3.alloc (.cells #[.int .i64 0, .slice none 0 0, .slice none 0 0, .slice none 0 0, .map none] 91)) := hB3.trans (hb.mono hB3.size)
              have hal : Own (X3.alloc (.cells #[.int .i64 0, .slice none 0 0, .slice none 0 0, .slice none 0 0, .map none] 91)) X3.heap.size 91 [.int .i64 0, .slice none 0 0, .slice none 0 0, .slice none 0 0, .map none] := Own.new X3 91 #[.int .i64 0, .slice none 0 0, .slice none 0 0, .slice none 0 0, .map none]
              replace hog := hog.keep hb
              replace hsl := hsl.keep hb
              replace hmp := (hb.block _ (Array.getElem?_eq_some_iff.1 hmp).1).trans hmp
              generalize (X3.alloc (.cells #[.int .i64 0, .slice none 0 0, .slice none 0 0, .slice none 0 0, .map none] 91)) = X4 at *
              clear hb
              have a0 : X4.cell? ⟨X3.heap.size, 0, none⟩ = some (.int .i64 0) := by rw [hal.cell]; rfl
              have a1 : X4.cell? ⟨X3.heap.size, 1, none⟩ = some (.slice none 0 0) := by rw [hal.cell]; rfl
              have a2 : X4.cell? ⟨X3.heap.size, 2, none⟩ = some (.slice none 0 0) := by rw [hal.cell]; rfl
              have a3 : X4.cell? ⟨X3.heap.size, 3, none⟩ = some (.slice none 0 0) := by rw [hal.cell]; rfl
              have a4 : X4.cell? ⟨X3.heap.size, 4, none⟩ = some (.map none) := by rw [hal.cell]; rfl
              have f0 := hal.frozen 0
              have f1 := hal.frozen 1
              have f2 := hal.frozen 2
              have f3 := hal.frozen 3
              have f4 := hal.frozen 4
              have hlt7 := hal.lt
              have REL := Lib.hid (nb_of hal hsl hmp hog hIT2 hB4 hB3.size (Nat.le_refl _) hB2.size (hIT2.ok HOK.out).1)
              have SX := Lib.hid (set5_cells (X := X4) (g := X3.heap.size) (cell_keep hB4 k0) (cell_keep hB4 k1) (by have := hB3.size; have := KLT.out; simp at this ⊢; omega) (.int .i64 (n : Int)) (.slice A2 z2.length cap2) (.slice (some ⟨W.heap.size, 0, none⟩) n n) (.slice none 0 0) (.map (some X2.heap.size)))
              have HDE := Lib.hid (hIT2.ok HOK.out).1
              refine wpAnyH_ready (rs := [8]) (by kernel_rfl) (by simp) ?_
              refine AllReadyH.cons rfl (fun K hK => ?_) AllReadyH.nil
              clear hal hsl hmp hog hIT2 hB1 hB2 hB3 hB4
              obtain rfl : hd2 = (n : Int) := HDE.out
              go_simp
              refine hK.out _ _ ?_ (fun hHeld => ?_)
              · exact SX.out
              clear hK K
              refine wpAnyH_done (by kernel_rfl) ?_ _
              go_wp2_with fail
              go_meet
              exact REL.out
          · go_simp
            refine hK.out _ _ ?_ (fun hHeld => ?_)
            · exact ⟨cell_alloc (cell_keep hB2 k0) _, cell_alloc (cell_keep hB2 k1) _⟩
            clear hK K
            have hb : Below X2.heap.size X2 (X2.alloc (.cells #[.int .i64 0, .slice none 0 0, .slice none 0 0, .slice none 0 0, .map none] 91)) := (below_box _)
            have hB3 : Below W.heap.size W (X2.alloc (.cells #[.int .i64 0, .slice none 0 0, .slice none 0 0, .slice none 0 0, .map none] 91)) := hB2.trans (hb.mono hB2.size)
            have hal : Own (X2.alloc (.cells #[.int .i64 0, .slice none 0 0, .slice none 0 0, .slice none 0 0, .map none] 91)) X2.heap.size 91 [.int .i64 0, .slice none 0 0, .slice none 0 0, .slice none 0 0, .map none] := Own.new X2 91 #[.int .i64 0, .slice none 0 0, .slice none 0 0, .slice none 0 0, .map none]
            replace hog := hog.keep hb
            replace hsl := hsl.keep hb
            generalize (X2.alloc (.cells #[.int .i64 0, .slice none 0 0, .slice none 0 0, .slice none 0 0, .map none] 91)) = X3 at *
            clear hb
            refine wpAnyH_ready (rs := [5]) (by kernel_rfl) (by simp) ?_
            refine AllReadyH.cons rfl (fun K hK => ?_) AllReadyH.nil
            · go_simp
              refine hK.out _ _ ?_ (fun hHeld => ?_)
              · exact ⟨cell_alloc (cell_keep hB3 k0) _, cell_alloc (cell_keep hB3 k1) _⟩
              clear hK K
              have hb : Below X3.heap.size X3 (X3.alloc (.map #[] 0)) := (below_box _)
              have hB4 : Below W.heap.size W (X3.alloc (.map #[] 0)) := hB3.trans (hb.mono hB3.size)
              have hmp : (X3.alloc (.map #[] 0)).heap[X3.heap.size]? = some (.map #[] 0) := (MapKept.heap_alloc X3 _).1
              replace hog := hog.keep hb
              replace hsl := hsl.keep hb
              replace hal := hal.keep hb
              generalize (X3.alloc (.map #[] 0)) = X4 at *
              clear hb
              (first
                | (refine held_take (i := 6) (v := ?_) rfl (by kernel_rfl) (by kernel_rfl) (by kernel_rfl) (fun _ _ _ h => h) (Or.inl ⟨rfl, ?_⟩) (by assumption) ?_; rotate_left; (intro X hSw; (try dsimp only at hSw); (go_simp <;> with_reducible rfl)))
                | (refine held_take (i := 6) (v := undef) rfl (by kernel_rfl) (by kernel_rfl) (by kernel_rfl) (fun _ _ _ h => h) (Or.inr ⟨rfl, rfl⟩) (by assumption) ?_)); simp only [Act.put, List.setIfInBounds_toArray, List.set_cons_zero, List.set_cons_succ]
              have a0 : X4.cell? ⟨X2.heap.size, 0, none⟩ = some (.int .i64 0) := by rw [hal.cell]; rfl
              have a1 : X4.cell? ⟨X2.heap.size, 1, none⟩ = some (.slice none 0 0) := by rw [hal.cell]; rfl
              have a2 : X4.cell? ⟨X2.heap.size, 2, none⟩ = some (.slice none 0 0) := by rw [hal.cell]; rfl
              have a3 : X4.cell? ⟨X2.heap.size, 3, none⟩ = some (.slice none 0 0) := by rw [hal.cell]; rfl
              have a4 : X4.cell? ⟨X2.heap.size, 4, none⟩ = some (.map none) := by rw [hal.cell]; rfl
              have f0 := hal.frozen 0
              have f1 := hal.frozen 1
              have f2 := hal.frozen 2
              have f3 := hal.frozen 3
              have f4 := hal.frozen 4
              have hlt7 := hal.lt
              have REL := Lib.hid (nb_of hal hsl hmp hog hIT2 hB4 hB2.size (Nat.le_refl _) hB3.size (hIT2.ok HOK.out).1)
              have SX := Lib.hid (set5_cells (X := X4) (g := X2.heap.size) (cell_keep hB4 k0) (cell_keep hB4 k1) (by have := hB2.size; have := KLT.out; simp at this ⊢; omega) (.int .i64 (n : Int)) (.slice A2 z2.length cap2) (.slice (some ⟨W.heap.size, 0, none⟩) n n) (.slice none 0 0) (.map (some X3.heap.size)))
              have HDE := Lib.hid (hIT2.ok HOK.out).1
              refine wpAnyH_ready (rs := [8]) (by kernel_rfl) (by simp) ?_
              refine AllReadyH.cons rfl (fun K hK => ?_) AllReadyH.nil
              clear hal hsl hmp hog hIT2 hB1 hB2 hB3 hB4
              obtain rfl : hd2 = (n : Int) := HDE.out
              go_simp
              refine hK.out _ _ ?_ (fun hHeld => ?_)
              · exact SX.out
              clear hK K
              refine wpAnyH_done (by kernel_rfl) ?_ _
              go_wp2_with fail
              go_meet
              exact REL.out
        · go_simp
          refine hK.out _ _ ?_ (fun hHeld => ?_)
          · exact ⟨cell_alloc (cell_keep hB1 k0) _, cell_alloc (cell_keep hB1 k1) _⟩
          clear hK K
          have hb : Below X1.heap.size X1 (X1.alloc (.map #[] 0)) := (below_box _)
          have hB2 : Below W.heap.size W (X1.alloc (.map #[] 0)) := hB1.trans (hb.mono hB1.size)
          have hmp : (X1.alloc (.map #[] 0)).heap[X1.heap.size]? = some (.map #[] 0) := (MapKept.heap_alloc X1 _).1
          replace hsl := hsl.keep hb
          generalize (X1.alloc (.map #[] 0)) = X2 at *
          clear hb
          refine wpAnyH_ready (rs := [1, 7]) (by kernel_rfl) (by simp) ?_
          refine AllReadyH.cons rfl (fun K hK => ?_) (AllReadyH.cons rfl (fun K hK => ?_) AllReadyH.nil)
          · go_simp
            go_wp2_with (go_at_call 62; refine (TRL.out _ hB2).mono ?_; rintro e X3 ⟨hd2, A2, cap2, z2, rfl, hIT2, hog, hb⟩)
            refine hK.out _ _ ?_ (fun hHeld => ?_)
            · exact ⟨cell_keep hb (cell_keep hB2 k0), cell_keep hb (cell_keep hB2 k1)⟩
            clear hK K
            have hB3 : Below W.heap.size W X3 := hB2.trans (hb.mono hB2.size)
            replace hog := hog.base hB2.size
            replace hsl := hsl.keep hb
            replace hmp := (hb.block _ (Array.getElem?_eq_some_iff.1 hmp).1).trans hmp
            clear hb
            (first
              | (refine held_take (i := 6) (v := ?_) rfl (by kernel_rfl) (by kernel_rfl) (by kernel_rfl) (fun _ _ _ h => h) (Or.inl ⟨rfl, ?_⟩) (by assumption) ?_; rotate_left; (intro X hSw; (try dsimp only at hSw); (go_simp <;> with_reducible rfl)))
              | (refine held_take (i := 6) (v := undef) rfl (by kernel_rfl) (by kernel_rfl) (by kernel_rfl) (fun _ _ _ h => h) (Or.inr ⟨rfl, rfl⟩) (by assumption) ?_)); simp only [Act.put, List.setIfInBounds_toArray, List.set_cons_zero, List.set_cons_succ]
            refine wpAnyH_ready (rs := [7]) (by kernel_rfl) (by simp) ?_
            refine AllReadyH.cons rfl (fun K hK => ?_) AllReadyH.nil
            · go_simp
              refine hK.out _ _ ?_ (fun hHeld => ?_)
              · exact ⟨cell_alloc (cell_keep hB3 k0) _, cell_alloc (cell_keep hB3 k1) _⟩
              clear hK K
              have hb : Below X3.heap.size X3 (X3.alloc (.cells #[.int .i64 0, .slice none 0 0, .slice none 0 0, .slice none 0 0, .map none] 91)) := (below_box _)
              have hB4 : Below W.heap.size W (X3.alloc (.cells #[.int .i64 0, .slice none 0 0, .slice none 0 0, .slice none 0 0, .map none] 91)) := hB3.trans (hb.mono hB3.size)
              have hal : Own (X3.alloc (.cells #[.int .i64 0, .slice none 0 0, .slice none 0 0, .slice none 0 0, .map none] 91)) X3.heap.size 91 [.int .i64 0, .slice none 0 0, .slice none 0 0, .slice none 0 0, .map none] := Own.new X3 91 #[.int .i64 0, .slice none 0 0, .slice none 0 0, .slice none 0 0, .map none]
              replace hog := hog.keep hb
              replace hsl := hsl.keep hb
              replace hmp := (hb.block _ (Array.getElem?_eq_some_iff.1 hmp).1).trans hmp
              generalize (X3.alloc (.cells #[.int .i64 0, .slice none 0 0, .slice none 0 0, .slice none 0 0, .map none] 91)) = X4 at *
              clear hb
              have a0 : X4.cell? ⟨X3.heap.size, 0, none⟩ = some (.int .i64 0) := by rw [hal.cell]; rfl
              have a1 : X4.cell? ⟨X3.heap.size, 1, none⟩ = some (.slice none 0 0) := by rw [hal.cell]; rfl
              have a2 : X4.cell? ⟨X3.heap.size, 2, none⟩ = some (.slice none 0 0) := by rw [hal.cell]; rfl
              have a3 : X4.cell? ⟨X3.heap.size, 3, none⟩ = some (.slice none 0 0) := by rw [hal.cell]; rfl
              have a4 : X4.cell? ⟨X3.heap.size, 4, none⟩ = some (.map none) := by rw [hal.cell]; rfl
              have f0 := hal.frozen 0
              have f1 := hal.frozen 1
              have f2 := hal.frozen 2
              have f3 := hal.frozen 3
              have f4 := hal.frozen 4
              have hlt7 := hal.lt
              have REL := Lib.hid (nb_of hal hsl hmp hog hIT2 hB4 hB3.size (Nat.le_refl _) hB1.size (hIT2.ok HOK.out).1)
              have SX := Lib.hid (set5_cells (X := X4) (g := X3.heap.size) (cell_keep hB4 k0) (cell_keep hB4 k1) (by have := hB3.size; have := KLT.out; simp at this ⊢; omega) (.int .i64 (n : Int)) (.slice A2 z2.length cap2) (.slice (some ⟨W.heap.size, 0, none⟩) n n) (.slice none 0 0) (.map (some X1.heap.size)))
              have HDE := Lib.hid (hIT2.ok HOK.out).1
              refine wpAnyH_ready (rs := [8]) (by kernel_rfl) (by simp) ?_
              refine AllReadyH.cons rfl (fun K hK => ?_) AllReadyH.nil
              clear hal hsl hmp hog hIT2 hB1 hB2 hB3 hB4
              obtain rfl : hd2 = (n : Int) := HDE.out
              go_simp
              refine hK.out _ _ ?_ (fun hHeld => ?_)
              · exact SX.out
              clear hK K
              refine wpAnyH_done (by kernel_rfl) ?_ _
              go_wp2_with fail
              go_meet
              exact REL.out
          · go_simp
            refine hK.out _ _ ?_ (fun hHeld => ?_)
            · exact ⟨cell_alloc (cell_keep hB2 k0) _, cell_alloc (cell_keep hB2 k1) _⟩
            clear hK K
            have hb : Below X2.heap.size X2 (X2.alloc (.cells #[.int .i64 0, .slice none 0 0, .slice none 0 0, .slice none 0 0, .map none] 91)) := (below_box _)
            have hB3 : Below W.heap.size W (X2.alloc (.cells #[.int .i64 0, .slice none 0 0, .slice none 0 0, .slice none 0 0, .map none] 91)) := hB2.trans (hb.mono hB2.size)
            have hal : Own (X2.alloc (.cells #[.int .i64 0, .slice none 0 0, .slice none 0 0, .slice none 0 0, .map none] 91)) X2.heap.size 91 [.int .i64 0, .slice none 0 0, .slice none 0 0, .slice none 0 0, .map none] := Own.new X2 91 #[.int .i64 0, .slice none 0 0, .slice none 0 0, .slice none 0 0, .map none]
            replace hsl := hsl.keep hb
            replace hmp := (hb.block _ (Array.getElem?_eq_some_iff.1 hmp).1).trans hmp
            generalize (X2.alloc (.cells #[.int .i64 0, .slice none 0 0, .slice none 0 0, .slice none 0 0, .map none] 91)) = X3 at *
            clear hb
            refine wpAnyH_ready (rs := [1]) (by kernel_rfl) (by simp) ?_
            refine AllReadyH.cons rfl (fun K hK => ?_) AllReadyH.nil
            · go_simp
              go_wp2_with (go_at_call 62; refine (TRL.out _ hB3).mono ?_; rintro e X4 ⟨hd2, A2, cap2, z2, rfl, hIT2, hog, hb⟩)
              refine hK.out _ _ ?_ (fun hHeld => ?_)
              · exact ⟨cell_keep hb (cell_keep hB3 k0), cell_keep hb (cell_keep hB3 k1)⟩
              clear hK K
              have hB4 : Below W.heap.size W X4 := hB3.trans (hb.mono hB3.size)
              replace hog := hog.base hB3.size
              replace hsl := hsl.keep hb
              replace hmp := (hb.block _ (Array.getElem?_eq_some_iff.1 hmp).1).trans hmp
              replace hal := hal.keep hb
              clear hb
              (first
                | (refine held_take (i := 6) (v := ?_) rfl (by kernel_rfl) (by kernel_rfl) (by kernel_rfl) (fun _ _ _ h => h) (Or.inl ⟨rfl, ?_⟩) (by assumption) ?_; rotate_left; (intro X hSw; (try dsimp only at hSw); (go_simp <;> with_reducible rfl)))
                | (refine held_take (i := 6) (v := undef) rfl (by kernel_rfl) (by kernel_rfl) (by kernel_rfl) (fun _ _ _ h => h) (Or.inr ⟨rfl, rfl⟩) (by assumption) ?_)); simp only [Act.put, List.setIfInBounds_toArray, List.set_cons_zero, List.set_cons_succ]
              have a0 : X4.cell? ⟨X2.heap.size, 0, none⟩ = some (.int .i64 0) := by rw [hal.cell]; rfl
              have a1 : X4.cell? ⟨X2.heap.size, 1, none⟩ = some (.slice none 0 0) := by rw [hal.cell]; rfl
              have a2 : X4.cell? ⟨X2.heap.size, 2, none⟩ = some (.slice none 0 0) := by rw [hal.cell]; rfl
              have a3 : X4.cell? ⟨X2.heap.size, 3, none⟩ = some (.slice none 0 0) := by rw [hal.cell]; rfl
              have a4 : X4.cell? ⟨X2.heap.size, 4, none⟩ = some (.map none) := by rw [hal.cell]; rfl
              have f0 := hal.frozen 0
              have f1 := hal.frozen 1
              have f2 := hal.frozen 2
              have f3 := hal.frozen 3
              have f4 := hal.frozen 4
              have hlt7 := hal.lt
              have REL := Lib.hid (nb_of hal hsl hmp hog hIT2 hB4 hB2.size (Nat.le_refl _) hB1.size (hIT2.ok HOK.out).1)
              have SX := Lib.hid (set5_cells (X := X4) (g := X2.heap.size) (cell_keep hB4 k0) (cell_keep hB4 k1) (by have := hB2.size; have := KLT.out; simp at this ⊢; omega) (.int .i64 (n : Int)) (.slice A2 z2.length cap2) (.slice (some ⟨W.heap.size, 0, none⟩) n n) (.slice none 0 0) (.map (some X1.heap.size)))
              have HDE := Lib.hid (hIT2.ok HOK.out).1
              refine wpAnyH_ready (rs := [8]) (by kernel_rfl) (by simp) ?_
              refine AllReadyH.cons rfl (fun K hK => ?_) AllReadyH.nil
              clear hal hsl hmp hog hIT2 hB1 hB2 hB3 hB4
              obtain rfl : hd2 = (n : Int) := HDE.out
              go_simp
              refine hK.out _ _ ?_ (fun hHeld => ?_)
              · exact SX.out
              clear hK K
              refine wpAnyH_done (by kernel_rfl) ?_ _
              go_wp2_with fail
              go_meet
              exact REL.out
        · go_simp
          refine hK.out _ _ ?_ (fun hHeld => ?_)
          · exact ⟨cell_alloc (cell_keep hB1 k0) _, cell_alloc (cell_keep hB1 k1) _⟩
          clear hK K
          have hb : Below X1.heap.size X1 (X1.alloc (.cells #[.int .i64 0, .slice none 0 0, .slice none 0 0, .slice none 0 0, .map none] 91)) := (below_box _)
          have hB2 : Below W.heap.size W (X1.alloc (.cells #[.int .i64 0, .slice none 0 0, .slice none 0 0, .slice none 0 0, .map none] 91)) := hB1.trans (hb.mono hB1.size)
          have hal : Own (X1.alloc (.cells #[.int .i64 0, .slice none 0 0, .slice none 0 0, .slice none 0 0, .map none] 91)) X1.heap.size 91 [.int .i64 0, .slice none 0 0, .slice none 0 0, .slice none 0 0, .map none] := Own.new X1 91 #[.int .i64 0, .slice none 0 0, .slice none 0 0, .slice none 0 0, .map none]
          replace hsl := hsl.keep hb
          generalize (X1.alloc (.cells #[.int .i64 0, .slice none 0 0, .slice none 0 0, .slice none 0 0, .map none] 91)) = X2 at *
          clear hb
          refine wpAnyH_ready (rs := [1, 5]) (by kernel_rfl) (by simp) ?_
          refine AllReadyH.cons rfl (fun K hK => ?_) (AllReadyH.cons rfl (fun K hK => ?_) AllReadyH.nil)
          · go_simp
            go_wp2_with (go_at_call 62; refine (TRL.out _ hB2).mono ?_; rintro e X3 ⟨hd2, A2, cap2, z2, rfl, hIT2, hog, hb⟩)
            refine hK.out _ _ ?_ (fun hHeld => ?_)
            · exact ⟨cell_keep hb (cell_keep hB2 k0), cell_keep hb (cell_keep hB2 k1)⟩
            clear hK K
            have hB3 : Below W.heap.size W X3 := hB2.trans (hb.mono hB2.size)
            replace hog := hog.base hB2.size
            replace hsl := hsl.keep hb
            replace hal := hal.keep hb
            clear hb
            refine wpAnyH_ready (rs := [5]) (by kernel_rfl) (by simp) ?_
            refine AllReadyH.cons rfl (fun K hK => ?_) AllReadyH.nil
            · go_simp
              refine hK.out _ _ ?_ (fun hHeld => ?_)
              · exact ⟨cell_alloc (cell_keep hB3 k0) _, cell_alloc (cell_keep hB3 k1) _⟩
              clear hK K
              have hb : Below X3.heap.size X3 (X3.alloc (.map #[] 0)) := (below_box _)
              have hB4 : Below W.heap.size W (X3.alloc (.map #[] 0)) := hB3.trans (hb.mono hB3.size)
              have hmp : (X3.alloc (.map #[] 0)).heap[X3.heap.size]? = some (.map #[] 0) := (MapKept.heap_alloc X3 _).1
              replace hog := hog.keep hb
              replace hsl := hsl.keep hb
              replace hal := hal.keep hb
              generalize (X3.alloc (.map #[] 0)) = X4 at *
              clear hb
              (first
                | (refine held_take (i := 6) (v := ?_) rfl (by kernel_rfl) (by kernel_rfl) (by kernel_rfl) (fun _ _ _ h => h) (Or.inl ⟨rfl, ?_⟩) (by assumption) ?_; rotate_left; (intro X hSw; (try dsimp only at hSw); (go_simp <;> with_reducible rfl)))
                | (refine held_take (i := 6) (v := undef) rfl (by kernel_rfl) (by kernel_rfl) (by kernel_rfl) (fun _ _ _ h => h) (Or.inr ⟨rfl, rfl⟩) (by assumption) ?_)); simp only [Act.put, List.setIfInBounds_toArray, List.set_cons_zero, List.set_cons_succ]
              have a0 : X4.cell? ⟨X1.heap.size, 0, none⟩ = some (.int .i64 0) := by rw [hal.cell]; rfl
              have a1 : X4.cell? ⟨X1.heap.size, 1, none⟩ = some (.slice none 0 0) := by rw [hal.cell]; rfl
              have a2 : X4.cell? ⟨X1.heap.size, 2, none⟩ = some (.slice none 0 0) := by rw [hal.cell]; rfl
              have a3 : X4.cell? ⟨X1.heap.size, 3, none⟩ = some (.slice none 0 0) := by rw [hal.cell]; rfl
              have a4 : X4.cell? ⟨X1.heap.size, 4, none⟩ = some (.map none) := by rw [hal.cell]; rfl
              have f0 := hal.frozen 0
              have f1 := hal.frozen 1
              have f2 := hal.frozen 2
              have f3 := hal.frozen 3
              have f4 := hal.frozen 4
              have hlt7 := hal.lt
              have REL := Lib.hid (nb_of hal hsl hmp hog hIT2 hB4 hB1.size (Nat.le_refl _) hB3.size (hIT2.ok HOK.out).1)
              have SX := Lib.hid (set5_cells (X := X4) (g := X1.heap.size) (cell_keep hB4 k0) (cell_keep hB4 k1) (by have := hB1.size; have := KLT.out; simp at this ⊢; omega) (.int .i64 (n : Int)) (.slice A2 z2.length cap2) (.slice (some ⟨W.heap.size, 0, none⟩) n n) (.slice none 0 0) (.map (some X3.heap.size)))
              have HDE := Lib.hid (hIT2.ok HOK.out).1
              refine wpAnyH_ready (rs := [8]) (by kernel_rfl) (by simp) ?_
              refine AllReadyH.cons rfl (fun K hK => ?_) AllReadyH.nil
              clear hal hsl hmp hog hIT2 hB1 hB2 hB3 hB4
              obtain rfl : hd2 = (n : Int) := HDE.out
              go_simp
              refine hK.out _ _ ?_ (fun hHeld => ?_)
              · exact SX.out
              clear hK K
              refine wpAnyH_done (by kernel_rfl) ?_ _
              go_wp2_with fail
              go_meet
              exact REL.out
          · go_simp
            refine hK.out _ _ ?_ (fun hHeld => ?_)
            · exact ⟨cell_alloc (cell_keep hB2 k0) _, cell_alloc (cell_keep hB2 k1) _⟩
            clear hK K
            have hb : Below X2.heap.size X2 (X2.alloc (.map #[] 0)) := (below_box _)
            have hB3 : Below W.heap.size W (X2.alloc (.map #[] 0)) := hB2.trans (hb.mono hB2.size)
            have hmp : (X2.alloc (.map #[] 0)).heap[X2.heap.size]? = some (.map #[] 0) := (MapKept.heap_alloc X2 _).1
            replace hsl := hsl.keep hb
            replace hal := hal.keep hb
            generalize (X2.alloc (.map #[] 0)) = X3 at *
            clear hb
            refine wpAnyH_ready (rs := [1]) (by kernel_rfl) (by simp) ?_
            refine AllReadyH.cons rfl (fun K hK => ?_) AllReadyH.nil
            · go_simp
              go_wp2_with (go_at_call 62; refine (TRL.out _ hB3).mono ?_; rintro e X4 ⟨hd2, A2, cap2, z2, rfl, hIT2, hog, hb⟩)
              refine hK.out _ _ ?_ (fun hHeld => ?_)
              · exact ⟨cell_keep hb (cell_keep hB3 k0), cell_keep hb (cell_keep hB3 k1)⟩
              clear hK K
              have hB4 : Below W.heap.size W X4 := hB3.trans (hb.mono hB3.size)
              replace hog := hog.base hB3.size
              replace hsl := hsl.keep hb
              replace hmp := (hb.block _ (Array.getElem?_eq_some_iff.1 hmp).1).trans hmp
              replace hal := hal.keep hb
              clear hb
              (first
                | (refine held_take (i := 6) (v := ?_) rfl (by kernel_rfl) (by kernel_rfl) (by kernel_rfl) (fun _ _ _ h => h) (Or.inl ⟨rfl, ?_⟩) (by assumption) ?_; rotate_left; (intro X hSw; (try dsimp only at hSw); (go_simp <;> with_reducible rfl)))
                | (refine held_take (i := 6) (v := undef) rfl (by kernel_rfl) (by kernel_rfl) (by kernel_rfl) (fun _ _ _ h => h) (Or.inr ⟨rfl, rfl⟩) (by assumption) ?_)); simp only [Act.put, List.setIfInBounds_toArray, List.set_cons_zero, List.set_cons_succ]
              have a0 : X4.cell? ⟨X1.heap.size, 0, none⟩ = some (.int .i64 0) := by rw [hal.cell]; rfl
              have a1 : X4.cell? ⟨X1.heap.size, 1, none⟩ = some (.slice none 0 0) := by rw [hal.cell]; rfl
              have a2 : X4.cell? ⟨X1.heap.size, 2, none⟩ = some (.slice none 0 0) := by rw [hal.cell]; rfl
              have a3 : X4.cell? ⟨X1.heap.size, 3, none⟩ = some (.slice none 0 0) := by rw [hal.cell]; rfl
              have a4 : X4.cell? ⟨X1.heap.size, 4, none⟩ = some (.map none) := by rw [hal.cell]; rfl
              have f0 := hal.frozen 0
              have f1 := hal.frozen 1
              have f2 := hal.frozen 2
              have f3 := hal.frozen 3
              have f4 := hal.frozen 4
              have hlt7 := hal.lt
              have REL := Lib.hid (nb_of hal hsl hmp hog hIT2 hB4 hB1.size (Nat.le_refl _) hB2.size (hIT2.ok HOK.out).1)
              have SX := Lib.hid (set5_cells (X := X4) (g := X1.heap.size) (cell_keep hB4 k0) (cell_keep hB4 k1) (by have := hB1.size; have := KLT.out; simp at this ⊢; omega) (.int .i64 (n : Int)) (.slice A2 z2.length cap2) (.slice (some ⟨W.heap.size, 0, none⟩) n n) (.slice none 0 0) (.map (some X2.heap.size)))
              have HDE := Lib.hid (hIT2.ok HOK.out).1
              refine wpAnyH_ready (rs := [8]) (by kernel_rfl) (by simp) ?_
              refine AllReadyH.cons rfl (fun K hK => ?_) AllReadyH.nil
              clear hal hsl hmp hog hIT2 hB1 hB2 hB3 hB4
              obtain rfl : hd2 = (n : Int) := HDE.out
              go_simp
              refine hK.out _ _ ?_ (fun hHeld => ?_)
              · exact SX.out
              clear hK K
              refine wpAnyH_done (by kernel_rfl) ?_ _
              go_wp2_with fail
              go_meet
              exact REL.out
      · go_simp
        refine hK.out _ _ ?_ (fun hHeld => ?_)
        · exact ⟨cell_alloc (cell_keep (Below.refl W.heap.size W) k0) _, cell_alloc (cell_keep (Below.refl W.heap.size W) k1) _⟩
        clear hK K
        have hb : Below W.heap.size W (W.alloc (.map #[] 0)).drew := (below_box _).drew
        have hB1 : Below W.heap.size W (W.alloc (.map #[] 0)).drew := (Below.refl W.heap.size W).trans (hb.mono (Below.refl W.heap.size W).size)
        have hmp : (W.alloc (.map #[] 0)).drew.heap[W.heap.size]? = some (.map #[] 0) := (MapKept.heap_alloc W _).1
        generalize (W.alloc (.map #[] 0)).drew = X1 at *
        clear hb
        refine wpAnyH_ready (rs := [1, 4, 7]) (by kernel_rfl) (by simp) ?_
        refine AllReadyH.cons rfl (fun K hK => ?_) (AllReadyH.cons rfl (fun K hK => ?_) (AllReadyH.cons rfl (fun K hK => ?_) AllReadyH.nil))
        · go_simp
          go_wp2_with (go_at_call 62; refine (TRL.out _ hB1).mono ?_; rintro e X2 ⟨hd2, A2, cap2, z2, rfl, hIT2, hog, hb⟩)
          refine hK.out _ _ ?_ (fun hHeld => ?_)
          · exact ⟨cell_keep hb (cell_keep hB1 k0), cell_keep hb (cell_keep hB1 k1)⟩
          clear hK K
          have hB2 : Below W.heap.size W X2 := hB1.trans (hb.mono hB1.size)
          replace hog := hog.base hB1.size
          replace hmp := (hb.block _ (Array.getElem?_eq_some_iff.1 hmp).1).trans hmp
          clear hb
          refine wpAnyH_ready (rs := [4, 7]) (by kernel_rfl) (by simp) ?_
          refine AllReadyH.cons rfl (fun K hK => ?_) (AllReadyH.cons rfl (fun K hK => ?_) AllReadyH.nil)
          · go_simp
            refine hK.out _ _ ?_ (fun hHeld => ?_)
            · exact ⟨cell_alloc (cell_keep hB2 k0) _, cell_alloc (cell_keep hB2 k1) _⟩
            clear hK K
            have hb : Below X2.heap.size X2 (X2.alloc (.cells (madeCells #[.slice none 0 0] n) 81)) := (below_box _)
            have hB3 : Below W.heap.size W (X2.alloc (.cells (madeCells #[.slice none 0 0] n) 81)) := hB2.trans (hb.mono hB2.size)
            have hsl : Own (X2.alloc (.cells (madeCells #[.slice none 0 0] n) 81)) X2.heap.size 81 (List.replicate n (.slice none 0 0)) := Own.made X2 81 (.slice none 0 0) n
            replace hog := hog.keep hb
            replace hmp := (hb.block _ (Array.getElem?_eq_some_iff.1 hmp).1).trans hmp
            generalize (X2.alloc (.cells (madeCells #[.slice none 0 0] n) 81)) = X3 at *
            clear hb
            (first
              | (refine held_take (i := 6) (v := ?_) rfl (by kernel_rfl) (by kernel_rfl) (by kernel_rfl) (fun _ _ _ h => h) (Or.inl ⟨rfl, ?_⟩) (by assumption) ?_; rotate_left; (intro X hSw; (try dsimp only at hSw); (go_simp <;> with_reducible rfl)))
              | (refine held_take (i := 6) (v := undef) rfl (by kernel_rfl) (by kernel_rfl) (by kernel_rfl) (fun _ _ _ h => h) (Or.inr ⟨rfl, rfl⟩) (by assumption) ?_)); simp only [Act.put, List.setIfInBounds_toArray, List.set_cons_zero, List.set_cons_succ]
            refine wpAnyH_ready (rs := [7]) (by kernel_rfl) (by simp) ?_
            refine AllReadyH.cons rfl (fun K hK => ?_) AllReadyH.nil
            · go_simp
              refine hK.out _ _ ?_ (fun hHeld => ?_)
              · exact ⟨cell_alloc (cell_keep hB3 k0) _, cell_alloc (cell_keep hB3 k1) _⟩
              clear hK K
              have hb : Below X3.heap.size X3 (X3.alloc (.cells #[.int .i64 0, .slice none 0 0, .slice none 0 0, .slice none 0 0, .map none] 91)) := (below_box _)
              have hB4 : Below W.heap.size W (X3.alloc (.cells #[.int .i64 0, .slice none 0 0, .slice none 0 0, .slice none 0 0, .map none] 91)) := hB3.trans (hb.mono hB3.size)
              have hal : Own (X3.alloc (.cells #[.int .i64 0, .slice none 0 0, .slice none 0 0, .slice none 0 0, .map none] 91)) X3.heap.size 91 [.int .i64 0, .slice none 0 0, .slice none 0 0, .slice none 0 0, .map none] := Own.new X3 91 #[.int .i64 0, .slice none 0 0, .slice none 0 0, .slice none 0 0, .map none]
              replace hog := hog.keep hb
              replace hsl := hsl.keep hb
              replace hmp := (hb.block _ (Array.getElem?_eq_some_iff.1 hmp).1).trans hmp
              generalize (X3.alloc (.cells #[.int .i64 0, .slice none 0 0, .slice none 0 0, .slice none 0 0, .map none] 91)) = X4 at *
              clear hb
              have a0 : X4.cell? ⟨X3.heap.size, 0, none⟩ = some (.int .i64 0) := by rw [hal.cell]; rfl
              have a1 : X4.cell? ⟨X3.heap.size, 1, none⟩ = some (.slice none 0 0) := by rw [hal.cell]; rfl
              have a2 : X4.cell? ⟨X3.heap.size, 2, none⟩ = some (.slice none 0 0) := by rw [hal.cell]; rfl
              have a3 : X4.cell? ⟨X3.heap.size, 3, none⟩ = some (.slice none 0 0) := by rw [hal.cell]; rfl
              have a4 : X4.cell? ⟨X3.heap.size, 4, none⟩ = some (.map none) := by rw [hal.cell]; rfl
              have f0 := hal.frozen 0
              have f1 := hal.frozen 1
              have f2 := hal.frozen 2
              have f3 := hal.frozen 3
              have f4 := hal.frozen 4
              have hlt7 := hal.lt
              have REL := Lib.hid (nb_of hal hsl hmp hog hIT2 hB4 hB3.size hB2.size (Nat.le_refl _) (hIT2.ok HOK.out).1)
              have SX := Lib.hid (set5_cells (X := X4) (g := X3.heap.size) (cell_keep hB4 k0) (cell_keep hB4 k1) (by have := hB3.size; have := KLT.out; simp at this ⊢; omega) (.int .i64 (n : Int)) (.slice A2 z2.length cap2) (.slice (some ⟨X2.heap.size, 0, none⟩) n n) (.slice none 0 0) (.map (some W.heap.size)))
              have HDE := Lib.hid (hIT2.ok HOK.out).1
              refine wpAnyH_ready (rs := [8]) (by kernel_rfl) (by simp) ?_
              refine AllReadyH.cons rfl (fun K hK => ?_) AllReadyH.nil
              clear hal hsl hmp hog hIT2 hB1 hB2 hB3 hB4
              obtain rfl : hd2 = (n : Int) := HDE.out
              go_simp
              refine hK.out _ _ ?_ (fun hHeld => ?_)
              · exact SX.out
              clear hK K
              refine wpAnyH_done (by kernel_rfl) ?_ _
              go_wp2_with fail
              go_meet
              exact REL.out
          · go_simp
            refine hK.out _ _ ?_ (fun hHeld => ?_)
            · exact ⟨cell_alloc (cell_keep hB2 k0) _, cell_alloc (cell_keep hB2 k1) _⟩
            clear hK K
            have hb : Below X2.heap.size X2 (X2.alloc (.cells #[.int .i64 0, .slice none 0 0, .slice none 0 0, .slice none 0 0, .map none] 91)) := (below_box _)
            have hB3 : Below W.heap.size W (X2.alloc (.cells #[.int .i64 0, .slice none 0 0, .slice none 0 0, .slice none 0 0, .map none] 91)) := hB2.trans (hb.mono hB2.size)
            have hal : Own (X2.alloc (.cells #[.int .i64 0, .slice none 0 0, .slice none 0 0, .slice none 0 0, .map none] 91)) X2.heap.size 91 [.int .i64 0, .slice none 0 0, .slice none 0 0, .slice none 0 0, .map none] := Own.new X2 91 #[.int .i64 0, .slice none 0 0, .slice none 0 0, .slice none 0 0, .map none]
            replace hog := hog.keep hb
            replace hmp := (hb.block _ (Array.getElem?_eq_some_iff.1 hmp).1).trans hmp
            generalize (X2.alloc (.cells #[.int .i64 0, .slice none 0 0, .slice none 0 0, .slice none 0 0, .map none] 91)) = X3 at *
            clear hb
            refine wpAnyH_ready (rs := [4]) (by kernel_rfl) (by simp) ?_
            refine AllReadyH.cons rfl (fun K hK => ?_) AllReadyH.nil
            · go_simp
              refine hK.out _ _ ?_ (fun hHeld => ?_)
              · exact ⟨cell_alloc (cell_keep hB3 k0) _, cell_alloc (cell_keep hB3 k1) _⟩
              clear hK K
              have hb : Below X3.heap.size X3 (X3.alloc (.cells (madeCells #[.slice none 0 0] n) 81)) := (below_box _)
              have hB4 : Below W.heap.size W (X3.alloc (.cells (madeCells #[.slice none 0 0] n) 81)) := hB3.trans (hb.mono hB3.size)
              have hsl : Own (X3.alloc (.cells (madeCells #[.slice none 0 0] n) 81)) X3.heap.size 81 (List.replicate n (.slice none 0 0)) := Own.made X3 81 (.slice none 0 0) n
              replace hog := hog.keep hb
              replace hmp := (hb.block _ (Array.getElem?_eq_some_iff.1 hmp).1).trans hmp
              replace hal := hal.keep hb
              generalize (X3.alloc (.cells (madeCells #[.slice none 0 0] n) 81)) = X4 at *
              clear hb
              (first
                | (refine held_take (i := 6) (v := ?_) rfl (by kernel_rfl) (by kernel_rfl) (by kernel_rfl) (fun _ _ _ h => h) (Or.inl ⟨rfl, ?_⟩) (by assumption) ?_; rotate_left; (intro X hSw; (try dsimp only at hSw); (go_simp <;> with_reducible rfl)))
                | (refine held_take (i := 6) (v := undef) rfl (by kernel_rfl) (by kernel_rfl) (by kernel_rfl) (fun _ _ _ h => h) (Or.inr ⟨rfl, rfl⟩) (by assumption) ?_)); simp only [Act.put, List.setIfInBounds_toArray, List.set_cons_zero, List.set_cons_succ]
              have a0 : X4.cell? ⟨X2.heap.size, 0, none⟩ = some (.int .i64 0) := by rw [hal.cell]; rfl
              have a1 : X4.cell? ⟨X2.heap.size, 1, none⟩ = some (.slice none 0 0) := by rw [hal.cell]; rfl
              have a2 : X4.cell? ⟨X2.heap.size, 2, none⟩ = some (.slice none 0 0) := by rw [hal.cell]; rfl
              have a3 : X4.cell? ⟨X2.heap.size, 3, none⟩ = some (.slice none 0 0) := by rw [hal.cell]; rfl
              have a4 : X4.cell? ⟨X2.heap.size, 4, none⟩ = some (.map none) := by rw [hal.cell]; rfl
              have f0 := hal.frozen 0
              have f1 := hal.frozen 1
              have f2 := hal.frozen 2
              have f3 := hal.frozen 3
              have f4 := hal.frozen 4
              have hlt7 := hal.lt
              have REL := Lib.hid (nb_of hal hsl hmp hog hIT2 hB4 hB2.size hB3.size (Nat.le_refl _) (hIT2.ok HOK.out).1)
              have SX := Lib.hid (set5_cells (X := X4) (g := X2.heap.size) (cell_keep hB4 k0) (cell_keep hB4 k1) (by have := hB2.size; have := KLT.out; simp at this ⊢; omega) (.int .i64 (n : Int)) (.slice A2 z2.length cap2) (.slice (some ⟨X3.heap.size, 0, none⟩) n n) (.slice none 0 0) (.map (some W.heap.size)))
              have HDE := Lib.hid (hIT2.ok HOK.out).1
              refine wpAnyH_ready (rs := [8]) (by kernel_rfl) (by simp) ?_
              refine AllReadyH.cons rfl (fun K hK => ?_) AllReadyH.nil
              clear hal hsl hmp hog hIT2 hB1 hB2 hB3 hB4
              obtain rfl : hd2 = (n : Int) := HDE.out
              go_simp
              refine hK.out _ _ ?_ (fun hHeld => ?_)
              · exact SX.out
              clear hK K
              refine wpAnyH_done (by kernel_rfl) ?_ _
              go_wp2_with fail
              go_meet
              exact REL.out
        · go_simp
          refine hK.out _ _ ?_ (fun hHeld => ?_)
          · exact ⟨cell_alloc (cell_keep hB1 k0) _, cell_alloc (cell_keep hB1 k1) _⟩
          clear hK K
          have hb : Below X1.heap.size X1 (X1.alloc (.cells (madeCells #[.slice none 0 0] n) 81)) := (below_box _)
          have hB2 : Below W.heap.size W (X1.alloc (.cells (madeCells #[.slice none 0 0] n) 81)) := hB1.trans (hb.mono hB1.size)
          have hsl : Own (X1.alloc (.cells (madeCells #[.slice none 0 0] n) 81)) X1.heap.size 81 (List.replicate n (.slice none 0 0)) := Own.made X1 81 (.slice none 0 0) n
          replace hmp := (hb.block _ (Array.getElem?_eq_some_iff.1 hmp).1).trans hmp
          generalize (X1.alloc (.cells (madeCells #[.slice none 0 0] n) 81)) = X2 at *
          clear hb
          refine wpAnyH_ready (rs := [1, 7]) (by kernel_rfl) (by simp) ?_
          refine AllReadyH.cons rfl (fun K hK => ?_) (AllReadyH.cons rfl (fun K hK => ?_) AllReadyH.nil)
          · go_simp
            go_wp2_with (go_at_call 62; refine (TRL.out _ hB2).mono ?_; rintro e X3 ⟨hd2, A2, cap2, z2, rfl, hIT2, hog, hb⟩)
            refine hK.out _ _ ?_ (fun hHeld => ?_)
            · exact ⟨cell_keep hb (cell_keep hB2 k0), cell_keep hb (cell_keep hB2 k1)⟩
            clear hK K
            have hB3 : Below W.heap.size W X3 := hB2.trans (hb.mono hB2.size)
            replace hog := hog.base hB2.size
            replace hsl := hsl.keep hb
            replace hmp := (hb.block _ (Array.getElem?_eq_some_iff.1 hmp).1).trans hmp
            clear hb
            (first
              | (refine held_take (i := 6) (v := ?_) rfl (by kernel_rfl) (by kernel_rfl) (by kernel_rfl) (fun _ _ _ h => h) (Or.inl ⟨rfl, ?_⟩) (by assumption) ?_; rotate_left; (intro X hSw; (try dsimp only at hSw); (go_simp <;> with_reducible rfl)))
              | (refine held_take (i := 6) (v := undef) rfl (by kernel_rfl) (by kernel_rfl) (by kernel_rfl) (fun _ _ _ h => h) (Or.inr ⟨rfl, rfl⟩) (by assumption) ?_)); simp only [Act.put, List.setIfInBounds_toArray, List.set_cons_zero, List.set_cons_succ]
            refine wpAnyH_ready (rs := [7]) (by kernel_rfl) (by simp) ?_
            refine AllReadyH.cons rfl (fun K hK => ?_) AllReadyH.nil
            · go_simp
              refine hK.out _ _ ?_ (fun hHeld => ?_)
              · exact ⟨cell_alloc (cell_keep hB3 k0) _, cell_alloc (cell_keep hB3 k1) _⟩
              clear hK K
              have hb : Below X3.heap.size X3 (X3.alloc (.cells #[.int .i64 0, .slice none 0 0, .slice none 0 0, .slice none 0 0, .map none] 91)) := (below_box _)
              have hB4 : Below W.heap.size W (X3.alloc (.cells #[.int .i64 0, .slice none 0 0, .slice none 0 0, .slice none 0 0, .map none] 91)) := hB3.trans (hb.mono hB3.size)
              have hal : Own (X3.alloc (.cells #[.int .i64 0, .slice none 0 0, .slice none 0 0, .slice none 0 0, .map none] 91)) X3.heap.size 91 [.int .i64 0, .slice none 0 0, .slice none 0 0, .slice none 0 0, .map none] := Own.new X3 91 #[.int .i64 0, .slice none 0 0, .slice none 0 0, .slice none 0 0, .map none]
              replace hog := hog.keep hb
              replace hsl := hsl.keep hb
              replace hmp := (hb.block _ (Array.getElem?_eq_some_iff.1 hmp).1).trans hmp
              generalize (X3.alloc (.cells #[.int .i64 0, .slice none 0 0, .slice none 0 0, .slice none 0 0, .map none] 91)) = X4 at *
              clear hb
              have a0 : X4.cell? ⟨X3.heap.size, 0, none⟩ = some (.int .i64 0) := by rw [hal.cell]; rfl
              have a1 : X4.cell? ⟨X3.heap.size, 1, none⟩ = some (.slice none 0 0) := by rw [hal.cell]; rfl
              have a2 : X4.cell? ⟨X3.heap.size, 2, none⟩ = some (.slice none 0 0) := by rw [hal.cell]; rfl
              have a3 : X4.cell? ⟨X3.heap.size, 3, none⟩ = some (.slice none 0 0) := by rw [hal.cell]; rfl
              have a4 : X4.cell? ⟨X3.heap.size, 4, none⟩ = some (.map none) := by rw [hal.cell]; rfl
              have f0 := hal.frozen 0
              have f1 := hal.frozen 1
              have f2 := hal.frozen 2
              have f3 := hal.frozen 3
              have f4 := hal.frozen 4
              have hlt7 := hal.lt
              have REL := Lib.hid (nb_of hal hsl hmp hog hIT2 hB4 hB3.size hB1.size (Nat.le_refl _) (hIT2.ok HOK.out).1)
              have SX := Lib.hid (set5_cells (X := X4) (g := X3.heap.size) (cell_keep hB4 k0) (cell_keep hB4 k1) (by have := hB3.size; have := KLT.out; simp at this ⊢; omega) (.int .i64 (n : Int)) (.slice A2 z2.length cap2) (.slice (some ⟨X1.heap.size, 0, none⟩) n n) (.slice none 0 0) (.map (some W.heap.size)))
              have HDE := Lib.hid (hIT2.ok HOK.out).1
              refine wpAnyH_ready (rs := [8]) (by kernel_rfl) (by simp) ?_
              refine AllReadyH.cons rfl (fun K hK => ?_) AllReadyH.nil
              clear hal hsl hmp hog hIT2 hB1 hB2 hB3 hB4
              obtain rfl : hd2 = (n : Int) := HDE.out
              go_simp
              refine hK.out _ _ ?_ (fun hHeld => ?_)
              · exact SX.out
              clear hK K
              refine wpAnyH_done (by kernel_rfl) ?_ _
              go_wp2_with fail
              go_meet
              exact REL.out
          · go_simp
            refine hK.out _ _ ?_ (fun hHeld => ?_)
            · exact ⟨cell_alloc (cell_keep hB2 k0) _, cell_alloc (cell_keep hB2 k1) _⟩
            clear hK K
            have hb : Below X2.heap.size X2 (X2.alloc (.cells #[.int .i64 0, .slice none 0 0, .slice none 0 0, .slice none 0 0, .map none] 91)) := (below_box _)
            have hB3 : Below W.heap.size W (X2.alloc (.cells #[.int .i64 0, .slice none 0 0, .slice none 0 0, .slice none 0 0, .map none] 91)) := hB2.trans (hb.mono hB2.size)
            have hal : Own (X2.alloc (.cells #[.int .i64 0, .slice none 0 0, .slice none 0 0, .slice none 0 0, .map none] 91)) X2.heap.size 91 [.int .i64 0, .slice none 0 0, .slice none 0 0, .slice none 0 0, .map none] := Own.new X2 91 #[.int .i64 0, .slice none 0 0, .slice none 0 0, .slice none 0 0, .map none]
            replace hsl := hsl.keep hb
            replace hmp := (hb.block _ (Array.getElem?_eq_some_iff.1 hmp).1).trans hmp
            generalize (X2.alloc (.cells #[.int .i64 0, .slice none 0 0, .slice none 0 0, .slice none 0 0, .map none] 91)) = X3 at *
            clear hb
            refine wpAnyH_ready (rs := [1]) (by kernel_rfl) (by simp) ?_
            refine AllReadyH.cons rfl (fun K hK => ?_) AllReadyH.nil
            · go_simp
              go_wp2_with (go_at_call 62; refine (TRL.out _ hB3).mono ?_; rintro e X4 ⟨hd2, A2, cap2, z2, rfl, hIT2, hog, hb⟩)
              refine hK.out _ _ ?_ (fun hHeld => ?_)
              · exact ⟨cell_keep hb (cell_keep hB3 k0), cell_keep hb (cell_keep hB3 k1)⟩
              clear hK K
              have hB4 : Below W.heap.size W X4 := hB3.trans (hb.mono hB3.size)
              replace hog := hog.base hB3.size
              replace hsl := hsl.keep hb
              replace hmp := (hb.block _ (Array.getElem?_eq_some_iff.1 hmp).1).trans hmp
              replace hal := hal.keep hb
              clear hb
              (first
                | (refine held_take (i := 6) (v := ?_) rfl (by kernel_rfl) (by kernel_rfl) (by kernel_rfl) (fun _ _ _ h => h) (Or.inl ⟨rfl, ?_⟩) (by assumption) ?_; rotate_left; (intro X hSw; (try dsimp only at hSw); (go_simp <;> with_reducible rfl)))
                | (refine held_take (i := 6) (v := undef) rfl (by kernel_rfl) (by kernel_rfl) (by kernel_rfl) (fun _ _ _ h => h) (Or.inr ⟨rfl, rfl⟩) (by assumption) ?_)); simp only [Act.put, List.setIfInBounds_toArray, List.set_cons_zero, List.set_cons_succ]
              have a0 : X4.cell? ⟨X2.heap.size, 0, none⟩ = some (.int .i64 0) := by rw [hal.cell]; rfl
              have a1 : X4.cell? ⟨X2.heap.size, 1, none⟩ = some (.slice none 0 0) := by rw [hal.cell]; rfl
              have a2 : X4.cell? ⟨X2.heap.size, 2, none⟩ = some (.slice none 0 0) := by rw [hal.cell]; rfl
              have a3 : X4.cell? ⟨X2.heap.size, 3, none⟩ = some (.slice none 0 0) := by rw [hal.cell]; rfl
              have a4 : X4.cell? ⟨X2.heap.size, 4, none⟩ = some (.map none) := by rw [hal.cell]; rfl
              have f0 := hal.frozen 0
              have f1 := hal.frozen 1
              have f2 := hal.frozen 2
              have f3 := hal.frozen 3
              have f4 := hal.frozen 4
              have hlt7 := hal.lt
              have REL := Lib.hid (nb_of hal hsl hmp hog hIT2 hB4 hB2.size hB1.size (Nat.le_refl _) (hIT2.ok HOK.out).1)
              have SX := Lib.hid (set5_cells (X := X4) (g := X2.heap.size) (cell_keep hB4 k0) (cell_keep hB4 k1) (by have := hB2.size; have := KLT.out; simp at this ⊢; omega) (.int .i64 (n : Int)) (.slice A2 z2.length cap2) (.slice (some ⟨X1.heap.size, 0, none⟩) n n) (.slice none 0 0) (.map (some W.heap.size)))
              have HDE := Lib.hid (hIT2.ok HOK.out).1
              refine wpAnyH_ready (rs := [8]) (by kernel_rfl) (by simp) ?_
              refine AllReadyH.cons rfl (fun K hK => ?_) AllReadyH.nil
              clear hal hsl hmp hog hIT2 hB1 hB2 hB3 hB4
              obtain rfl : hd2 = (n : Int) := HDE.out
              go_simp
              refine hK.out _ _ ?_ (fun hHeld => ?_)
              · exact SX.out
              clear hK K
              refine wpAnyH_done (by kernel_rfl) ?_ _
              go_wp2_with fail
              go_meet
              exact REL.out
        · go_simp
          refine hK.out _ _ ?_ (fun hHeld => ?_)
          · exact ⟨cell_alloc (cell_keep hB1 k0) _, cell_alloc (cell_keep hB1 k1) _⟩
          clear hK K
          have hb : Below X1.heap.size X1 (X1.alloc (.cells #[.int .i64 0, .slice none 0 0, .slice none 0 0, .slice none 0 0, .map none] 91)) := (below_box _)
          have hB2 : Below W.heap.size W (X1.alloc (.cells #[.int .i64 0, .slice none 0 0, .slice none 0 0, .slice none 0 0, .map none] 91)) := hB1.trans (hb.mono hB1.size)
          have hal : Own (X1.alloc (.cells #[.int .i64 0, .slice none 0 0, .slice none 0 0, .slice none 0 0, .map none] 91)) X1.heap.size 91 [.int .i64 0, .slice none 0 0, .slice none 0 0, .slice none 0 0, .map none] := Own.new X1 91 #[.int .i64 0, .slice none 0 0, .slice none 0 0, .slice none 0 0, .map none]
          replace hmp := (hb.block _ (Array.getElem?_eq_some_iff.1 hmp).1).trans hmp
          generalize (X1.alloc (.cells #[.int .i64 0, .slice none 0 0, .slice none 0 0, .slice none 0 0, .map none] 91)) = X2 at *
          clear hb
          refine wpAnyH_ready (rs := [1, 4]) (by kernel_rfl) (by simp) ?_
          refine AllReadyH.cons rfl (fun K hK => ?_) (AllReadyH.cons rfl (fun K hK => ?_) AllReadyH.nil)
          · go_simp
            go_wp2_with (go_at_call 62; refine (TRL.out _ hB2).mono ?_; rintro e X3 ⟨hd2, A2, cap2, z2, rfl, hIT2, hog, hb⟩)
            refine hK.out _ _ ?_ (fun hHeld => ?_)
            · exact ⟨cell_keep hb (cell_keep hB2 k0), cell_keep hb (cell_keep hB2 k1)⟩
            clear hK K
            have hB3 : Below W.heap.size W X3 := hB2.trans (hb.mono hB2.size)
            replace hog := hog.base hB2.size
            replace hmp := (hb.block _ (Array.getElem?_eq_some_iff.1 hmp).1).trans hmp
            replace hal := hal.keep hb
            clear hb
            refine wpAnyH_ready (rs := [4]) (by kernel_rfl) (by simp) ?_
            refine AllReadyH.cons rfl (fun K hK => ?_) AllReadyH.nil
            · go_simp
              refine hK.out _ _ ?_ (fun hHeld => ?_)
              · exact ⟨cell_alloc (cell_keep hB3 k0) _, cell_alloc (cell_keep hB3 k1) _⟩
              clear hK K
              have hb : Below X3.heap.size X3 (X3.alloc (.cells (madeCells #[.slice none 0 0] n) 81)) := (below_box _)
              have hB4 : Below W.heap.size W (X3.alloc (.cells (madeCells #[.slice none 0 0] n) 81)) := hB3.trans (hb.mono hB3.size)
              have hsl : Own (X3.alloc (.cells (madeCells #[.slice none 0 0] n) 81)) X3.heap.size 81 (List.replicate n (.slice none 0 0)) := Own.made X3 81 (.slice none 0 0) n
              replace hog := hog.keep hb
              replace hmp := (hb.block _ (Array.getElem?_eq_some_iff.1 hmp).1).trans hmp
              replace hal := hal.keep hb
              generalize (X3.alloc (.cells (madeCells #[.slice none 0 0] n) 81)) = X4 at *
              clear hb
              (first
                | (refine held_take (i := 6) (v := ?_) rfl (by kernel_rfl) (by kernel_rfl) (by kernel_rfl) (fun _ _ _ h => h) (Or.inl ⟨rfl, ?_⟩) (by assumption) ?_; rotate_left; (intro X hSw; (try dsimp only at hSw); (go_simp <;> with_reducible rfl)))
                | (refine held_take (i := 6) (v := undef) rfl (by kernel_rfl) (by kernel_rfl) (by kernel_rfl) (fun _ _ _ h => h) (Or.inr ⟨rfl, rfl⟩) (by assumption) ?_)); simp only [Act.put, List.setIfInBounds_toArray, List.set_cons_zero, List.set_cons_succ]
              have a0 : X4.cell? ⟨X1.heap.size, 0, none⟩ = some (.int .i64 0) := by rw [hal.cell]; rfl
              have a1 : X4.cell? ⟨X1.heap.size, 1, none⟩ = some (.slice none 0 0) := by rw [hal.cell]; rfl
              have a2 : X4.cell? ⟨X1.heap.size, 2, none⟩ = some (.slice none 0 0) := by rw [hal.cell]; rfl
              have a3 : X4.cell? ⟨X1.heap.size, 3, none⟩ = some (.slice none 0 0) := by rw [hal.cell]; rfl
              have a4 : X4.cell? ⟨X1.heap.size, 4, none⟩ = some (.map none) := by rw [hal.cell]; rfl
              have f0 := hal.frozen 0
              have f1 := hal.frozen 1
              have f2 := hal.frozen 2
              have f3 := hal.frozen 3
              have f4 := hal.frozen 4
              have hlt7 := hal.lt
              have REL := Lib.hid (nb_of hal hsl hmp hog hIT2 hB4 hB1.size hB3.size (Nat.le_refl _) (hIT2.ok HOK.out).1)
              have SX := Lib.hid (set5_cells (X := X4) (g := X1.heap.size) (cell_keep hB4 k0) (cell_keep hB4 k1) (by have := hB1.size; have := KLT.out; simp at this ⊢; omega) (.int .i64 (n : Int)) (.slice A2 z2.length cap2) (.slice (some ⟨X3.heap.size, 0, none⟩) n n) (.slice none 0 0) (.map (some W.heap.size)))
              have HDE := Lib.hid (hIT2.ok HOK.out).1
              refine wpAnyH_ready (rs := [8]) (by kernel_rfl) (by simp) ?_
              refine AllReadyH.cons rfl (fun K hK => ?_) AllReadyH.nil
              clear hal hsl hmp hog hIT2 hB1 hB2 hB3 hB4
              obtain rfl : hd2 = (n : Int) := HDE.out
              go_simp
              refine hK.out _ _ ?_ (fun hHeld => ?_)
              · exact SX.out
              clear hK K
              refine wpAnyH_done (by kernel_rfl) ?_ _
              go_wp2_with fail
              go_meet
              exact REL.out
          · go_simp
            refine hK.out _ _ ?_ (fun hHeld => ?_)
            · exact ⟨cell_alloc (cell_keep hB2 k0) _, cell_alloc (cell_keep hB2 k1) _⟩
            clear hK K
            have hb : Below X2.heap.size X2 (X2.alloc (.cells (madeCells #[.slice none 0 0] n) 81)) := (below_box _)
            have hB3 : Below W.heap.size W (X2.alloc (.cells (madeCells #[.slice none 0 0] n) 81)) := hB2.trans (hb.mono hB2.size)
            have hsl : Own (X2.alloc (.cells (madeCells #[.slice none 0 0] n) 81)) X2.heap.size 81 (List.replicate n (.slice none 0 0)) := Own.made X2 81 (.slice none 0 0) n
            replace hmp := (hb.block _ (Array.getElem?_eq_some_iff.1 hmp).1).trans hmp
            replace hal := hal.keep hb
            generalize (X2.alloc (.cells (madeCells #[.slice none 0 0] n) 81)) = X3 at *
            clear hb
            refine wpAnyH_ready (rs := [1]) (by kernel_rfl) (by simp) ?_
            refine AllReadyH.cons rfl (fun K hK => ?_) AllReadyH.nil
            · go_simp
              go_wp2_with (go_at_call 62; refine (TRL.out _ hB3).mono ?_; rintro e X4 ⟨hd2, A2, cap2, z2, rfl, hIT2, hog, hb⟩)
              refine hK.out _ _ ?_ (fun hHeld => ?_)
              · exact ⟨cell_keep hb (cell_keep hB3 k0), cell_keep hb (cell_keep hB3 k1)⟩
              clear hK K
              have hB4 : Below W.heap.size W X4 := hB3.trans (hb.mono hB3.size)
              replace hog := hog.base hB3.size
              replace hsl := hsl.keep hb
              replace hmp := (hb.block _ (Array.getElem?_eq_some_iff.1 hmp).1).trans hmp
              replace hal := hal.keep hb
              clear hb
              (first
                | (refine held_take (i := 6) (v := ?_) rfl (by kernel_rfl) (by kernel_rfl) (by kernel_rfl) (fun _ _ _ h => h) (Or.inl ⟨rfl, ?_⟩) (by assumption) ?_; rotate_left; (intro X hSw; (try dsimp only at hSw); (go_simp <;> with_reducible rfl)))
                | (refine held_take (i := 6) (v := undef) rfl (by kernel_rfl) (by kernel_rfl) (by kernel_rfl) (fun _ _ _ h => h) (Or.inr ⟨rfl, rfl⟩) (by assumption) ?_)); simp only [Act.put, List.setIfInBounds_toArray, List.set_cons_zero, List.set_cons_succ]
              have a0 : X4.cell? ⟨X1.heap.size, 0, none⟩ = some (.int .i64 0) := by rw [hal.cell]; rfl
              have a1 : X4.cell? ⟨X1.heap.size, 1, none⟩ = some (.slice none 0 0) := by rw [hal.cell]; rfl
              have a2 : X4.cell? ⟨X1.heap.size, 2, none⟩ = some (.slice none 0 0) := by rw [hal.cell]; rfl
              have a3 : X4.cell? ⟨X1.heap.size, 3, none⟩ = some (.slice none 0 0) := by rw [hal.cell]; rfl
              have a4 : X4.cell? ⟨X1.heap.size, 4, none⟩ = some (.map none) := by rw [hal.cell]; rfl
              have f0 := hal.frozen 0
              have f1 := hal.frozen 1
              have f2 := hal.frozen 2
              have f3 := hal.frozen 3
              have f4 := hal.frozen 4
              have hlt7 := hal.lt
              have REL := Lib.hid (nb_of hal hsl hmp hog hIT2 hB4 hB1.size hB2.size (Nat.le_refl _) (hIT2.ok HOK.out).1)
              have SX := Lib.hid (set5_cells (X := X4) (g := X1.heap.size) (cell_keep hB4 k0) (cell_keep hB4 k1) (by have := hB1.size; have := KLT.out; simp at this ⊢; omega) (.int .i64 (n : Int)) (.slice A2 z2.length cap2) (.slice (some ⟨X2.heap.size, 0, none⟩) n n) (.slice none 0 0) (.map (some W.heap.size)))
              have HDE := Lib.hid (hIT2.ok HOK.out).1
              refine wpAnyH_ready (rs := [8]) (by kernel_rfl) (by simp) ?_
              refine AllReadyH.cons rfl (fun K hK => ?_) AllReadyH.nil
              clear hal hsl hmp hog hIT2 hB1 hB2 hB3 hB4
              obtain rfl : hd2 = (n : Int) := HDE.out
              go_simp
              refine hK.out _ _ ?_ (fun hHeld => ?_)
              · exact SX.out
              clear hK K
              refine wpAnyH_done (by kernel_rfl) ?_ _
              go_wp2_with fail
              go_meet
              exact REL.out
      · go_simp
        refine hK.out _ _ ?_ (fun hHeld => ?_)
        · exact ⟨cell_alloc (cell_keep (Below.refl W.heap.size W) k0) _, cell_alloc (cell_keep (Below.refl W.heap.size W) k1) _⟩
        clear hK K
        have hb : Below W.heap.size W (W.alloc (.cells #[.int .i64 0, .slice none 0 0, .slice none 0 0, .slice none 0 0, .map none] 91)).drew := (below_box _).drew
        have hB1 : Below W.heap.size W (W.alloc (.cells #[.int .i64 0, .slice none 0 0, .slice none 0 0, .slice none 0 0, .map none] 91)).drew := (Below.refl W.heap.size W).trans (hb.mono (Below.refl W.heap.size W).size)
        have hal : Own (W.alloc (.cells #[.int .i64 0, .slice none 0 0, .slice none 0 0, .slice none 0 0, .map none] 91)).drew W.heap.size 91 [.int .i64 0, .slice none 0 0, .slice none 0 0, .slice none 0 0, .map none] := Own.new W 91 #[.int .i64 0, .slice none 0 0, .slice none 0 0, .slice none 0 0, .map none]
        generalize (W.alloc (.cells #[.int .i64 0, .slice none 0 0, .slice none 0 0, .slice none 0 0, .map none] 91)).drew = X1 at *
        clear hb
        refine wpAnyH_ready (rs := [1, 4, 5]) (by kernel_rfl) (by simp) ?_
        refine AllReadyH.cons rfl (fun K hK => ?_) (AllReadyH.cons rfl (fun K hK => ?_) (AllReadyH.cons rfl (fun K hK => ?_) AllReadyH.nil))
        · go_simp
          go_wp2_with (go_at_call 62; refine (TRL.out _ hB1).mono ?_; rintro e X2 ⟨hd2, A2, cap2, z2, rfl, hIT2, hog, hb⟩)
          refine hK.out _ _ ?_ (fun hHeld => ?_)
          · exact ⟨cell_keep hb (cell_keep hB1 k0), cell_keep hb (cell_keep hB1 k1)⟩
          clear hK K
          have hB2 : Below W.heap.size W X2 := hB1.trans (hb.mono hB1.size)
          replace hog := hog.base hB1.size
          replace hal := hal.keep hb
          clear hb
          refine wpAnyH_ready (rs := [4, 5]) (by kernel_rfl) (by simp) ?_
          refine AllReadyH.cons rfl (fun K hK => ?_) (AllReadyH.cons rfl (fun K hK => ?_) AllReadyH.nil)
          · go_simp
            refine hK.out _ _ ?_ (fun hHeld => ?_)
            · exact ⟨cell_alloc (cell_keep hB2 k0) _, cell_alloc (cell_keep hB2 k1) _⟩
            clear hK K
            have hb : Below X2.heap.size X2 (X2.alloc (.cells (madeCells #[.slice none 0 0] n) 81)) := (below_box _)
            have hB3 : Below W.heap.size W (X2.alloc (.cells (madeCells #[.slice none 0 0] n) 81)) := hB2.trans (hb.mono hB2.size)
            have hsl : Own (X2.alloc (.cells (madeCells #[.slice none 0 0] n) 81)) X2.heap.size 81 (List.replicate n (.slice none 0 0)) := Own.made X2 81 (.slice none 0 0) n
            replace hog := hog.keep hb
            replace hal := hal.keep hb
            generalize (X2.alloc (.cells (madeCells #[.slice none 0 0] n) 81)) = X3 at *
            clear hb
            refine wpAnyH_ready (rs := [5]) (by kernel_rfl) (by simp) ?_
            refine AllReadyH.cons rfl (fun K hK => ?_) AllReadyH.nil
            · go_simp
              refine hK.out _ _ ?_ (fun hHeld => ?_)
              · exact ⟨cell_alloc (cell_keep hB3 k0) _, cell_alloc (cell_keep hB3 k1) _⟩
              clear hK K
              have hb : Below X3.heap.size X3 (X3.alloc (.map #[] 0)) := (below_box _)
              have hB4 : Below W.heap.size W (X3.alloc (.map #[] 0)) := hB3.trans (hb.mono hB3.size)
              have hmp : (X3.alloc (.map #[] 0)).heap[X3.heap.size]? = some (.map #[] 0) := (MapKept.heap_alloc X3 _).1
              replace hog := hog.keep hb
              replace hsl := hsl.keep hb
              replace hal := hal.keep hb
              generalize (X3.alloc (.map #[] 0)) = X4 at *
              clear hb
              (first
                | (refine held_take (i := 6) (v := ?_) rfl (by kernel_rfl) (by kernel_rfl) (by kernel_rfl) (fun _ _ _ h => h) (Or.inl ⟨rfl, ?_⟩) (by assumption) ?_; rotate_left; (intro X hSw; (try dsimp only at hSw); (go_simp <;> with_reducible rfl)))
                | (refine held_take (i := 6) (v := undef) rfl (by kernel_rfl) (by kernel_rfl) (by kernel_rfl) (fun _ _ _ h => h) (Or.inr ⟨rfl, rfl⟩) (by assumption) ?_)); simp only [Act.put, List.setIfInBounds_toArray, List.set_cons_zero, List.set_cons_succ]
              have a0 : X4.cell? ⟨W.heap.size, 0, none⟩ = some (.int .i64 0) := by rw [hal.cell]; rfl
              have a1 : X4.cell? ⟨W.heap.size, 1, none⟩ = some (.slice none 0 0) := by rw [hal.cell]; rfl
              have a2 : X4.cell? ⟨W.heap.size, 2, none⟩ = some (.slice none 0 0) := by rw [hal.cell]; rfl
              have a3 : X4.cell? ⟨W.heap.size, 3, none⟩ = some (.slice none 0 0) := by rw [hal.cell]; rfl
              have a4 : X4.cell? ⟨W.heap.size, 4, none⟩ = some (.map none) := by rw [hal.cell]; rfl
              have f0 := hal.frozen 0
              have f1 := hal.frozen 1
              have f2 := hal.frozen 2
              have f3 := hal.frozen 3
              have f4 := hal.frozen 4
              have hlt7 := hal.lt
              have REL := Lib.hid (nb_of hal hsl hmp hog hIT2 hB4 (Nat.le_refl _) hB2.size hB3.size (hIT2.ok HOK.out).1)
              have SX := Lib.hid (set5_cells (X := X4) (g := W.heap.size) (cell_keep hB4 k0) (cell_keep hB4 k1) (by have := hB0.size; have := KLT.out; simp at this ⊢; omega) (.int .i64 (n : Int)) (.slice A2 z2.length cap2) (.slice (some ⟨X2.heap.size, 0, none⟩) n n) (.slice none 0 0) (.map (some X3.heap.size)))
              have HDE := Lib.hid (hIT2.ok HOK.out).1
              refine wpAnyH_ready (rs := [8]) (by kernel_rfl) (by simp) ?_
              refine AllReadyH.cons rfl (fun K hK => ?_) AllReadyH.nil
              clear hal hsl hmp hog hIT2 hB1 hB2 hB3 hB4
              obtain rfl : hd2 = (n : Int) := HDE.out
              go_simp
              refine hK.out _ _ ?_ (fun hHeld => ?_)
              · exact SX.out
              clear hK K
              refine wpAnyH_done (by kernel_rfl) ?_ _
              go_wp2_with fail
              go_meet
              exact REL.out
          · go_simp
            refine hK.out _ _ ?_ (fun hHeld => ?_)
            · exact ⟨cell_alloc (cell_keep hB2 k0) _, cell_alloc (cell_keep hB2 k1) _⟩
            clear hK K
            have hb : Below X2.heap.size X2 (X2.alloc (.map #[] 0)) := (below_box _)
            have hB3 : Below W.heap.size W (X2.alloc (.map #[] 0)) := hB2.trans (hb.mono hB2.size)
            have hmp : (X2.alloc (.map #[] 0)).heap[X2.heap.size]? = some (.map #[] 0) := (MapKept.heap_alloc X2 _).1
            replace hog := hog.keep hb
            replace hal := hal.keep hb
            generalize (X2.alloc (.map #[] 0)) = X3 at *
            clear hb
            refine wpAnyH_ready (rs := [4]) (by kernel_rfl) (by simp) ?_
            refine AllReadyH.cons rfl (fun K hK => ?_) AllReadyH.nil
            · go_simp
              refine hK.out _ _ ?_ (fun hHeld => ?_)
              · exact ⟨cell_alloc (cell_keep hB3 k0) _, cell_alloc (cell_keep hB3 k1) _⟩
              clear hK K
              have hb : Below X3.heap.size X3 (X3.alloc (.cells (madeCells #[.slice none 0 0] n) 81)) := (below_box _)
              have hB4 : Below W.heap.size W (X3.alloc (.cells (madeCells #[.slice none 0 0] n) 81)) := hB3.trans (hb.mono hB3.size)
              have hsl : Own (X3.alloc (.cells (madeCells #[.slice none 0 0] n) 81)) X3.heap.size 81 (List.replicate n (.slice none 0 0)) := Own.made X3 81 (.slice none 0 0) n
              replace hog := hog.keep hb
              replace hmp := (hb.block _ (Array.getElem?_eq_some_iff.1 hmp).1).trans hmp
              replace hal := hal.keep hb
              generalize (X3.alloc (.cells (madeCells #[.slice none 0 0] n) 81)) = X4 at *
              clear hb
              (first
                | (refine held_take (i := 6) (v := ?_) rfl (by kernel_rfl) (by kernel_rfl) (by kernel_rfl) (fun _ _ _ h => h) (Or.inl ⟨rfl, ?_⟩) (by assumption) ?_; rotate_left; (intro X hSw; (try dsimp only at hSw); (go_simp <;> with_reducible rfl)))
                | (refine held_take (i := 6) (v := undef) rfl (by kernel_rfl) (by kernel_rfl) (by kernel_rfl) (fun _ _ _ h => h) (Or.inr ⟨rfl, rfl⟩) (by assumption) ?_)); simp only [Act.put, List.setIfInBounds_toArray, List.set_cons_zero, List.set_cons_succ]
              have a0 : X4.cell? ⟨W.heap.size, 0, none⟩ = some (.int .i64 0) := by rw [hal.cell]; rfl
              have a1 : X4.cell? ⟨W.heap.size, 1, none⟩ = some (.slice none 0 0) := by rw [hal.cell]; rfl
              have a2 : X4.cell? ⟨W.heap.size, 2, none⟩ = some (.slice none 0 0) := by rw [hal.cell]; rfl
              have a3 : X4.cell? ⟨W.heap.size, 3, none⟩ = some (.slice none 0 0) := by rw [hal.cell]; rfl
              have a4 : X4.cell? ⟨W.heap.size, 4, none⟩ = some (.map none) := by rw [hal.cell]; rfl
              have f0 := hal.frozen 0
              have f1 := hal.frozen 1
              have f2 := hal.frozen 2
              have f3 := hal.frozen 3
              have f4 := hal.frozen 4
              have hlt7 := hal.lt
              have REL := Lib.hid (nb_of hal hsl hmp hog hIT2 hB4 (Nat.le_refl _) hB3.size hB2.size (hIT2.ok HOK.out).1)
              have SX := Lib.hid (set5_cells (X := X4) (g := W.heap.size) (cell_keep hB4 k0) (cell_keep hB4 k1) (by have := hB0.size; have := KLT.out; simp at this ⊢; omega) (.int .i64 (n : Int)) (.slice A2 z2.length cap2) (.slice (some ⟨X3.heap.size, 0, none⟩) n n) (.slice none 0 0) (.map (some X2.heap.size)))
              have HDE := Lib.hid (hIT2.ok HOK.out).1
              refine wpAnyH_ready (rs := [8]) (by kernel_rfl) (by simp) ?_
              refine AllReadyH.cons rfl (fun K hK => ?_) AllReadyH.nil
              clear hal hsl hmp hog hIT2 hB1 hB2 hB3 hB4
              obtain rfl : hd2 = (n : Int) := HDE.out
              go_simp
              refine hK.out _ _ ?_ (fun hHeld => ?_)
              · exact SX.out
              clear hK K
              refine wpAnyH_done (by kernel_rfl) ?_ _
              go_wp2_with fail
              go_meet
              exact REL.out
        · go_simp
          refine hK.out _ _ ?_ (fun hHeld => ?_)
          · exact ⟨cell_alloc (cell_keep hB1 k0) _, cell_alloc (cell_keep hB1 k1) _⟩
          clear hK K
          have hb : Below X1.heap.size X1 (X1.alloc (.cells (madeCells #[.slice none 0 0] n) 81)) := (below_box _)
          have hB2 : Below W.heap.size W (X1.alloc (.cells (madeCells #[.slice none 0 0] n) 81)) := hB1.trans (hb.mono hB1.size)
          have hsl : Own (X1.alloc (.cells (madeCells #[.slice none 0 0] n) 81)) X1.heap.size 81 (List.replicate n (.slice none 0 0)) := Own.made X1 81 (.slice none 0 0) n
          replace hal := hal.keep hb
          generalize (X1.alloc (.cells (madeCells #[.slice none 0 0] n) 81)) = X2 at *
          clear hb
          refine wpAnyH_ready (rs := [1, 5]) (by kernel_rfl) (by simp) ?_
          refine AllReadyH.cons rfl (fun K hK => ?_) (AllReadyH.cons rfl (fun K hK => ?_) AllReadyH.nil)
          · go_simp
            go_wp2_with (go_at_call 62; refine (TRL.out _ hB2).mono ?_; rintro e X3 ⟨hd2, A2, cap2, z2, rfl, hIT2, hog, hb⟩)
            refine hK.out _ _ ?_ (fun hHeld => ?_)
            · exact ⟨cell_keep hb (cell_keep hB2 k0), cell_keep hb (cell_keep hB2 k1)⟩
            clear hK K
            have hB3 : Below W.heap.size W X3 := hB2.trans (hb.mono hB2.size)
            replace hog := hog.base hB2.size
            replace hsl := hsl.keep hb
            replace hal := hal.keep hb
            clear hb
            refine wpAnyH_ready (rs := [5]) (by kernel_rfl) (by simp) ?_
            refine AllReadyH.cons rfl (fun K hK => ?_) AllReadyH.nil
            · go_simp
              refine hK.out _ _ ?_ (fun hHeld => ?_)
              · exact ⟨cell_alloc (cell_keep hB3 k0) _, cell_alloc (cell_keep hB3 k1) _⟩
              clear hK K
              have hb : Below X3.heap.size X3 (X3.alloc (.map #[] 0)) := (below_box _)
              have hB4 : Below W.heap.size W (X3.alloc (.map #[] 0)) := hB3.trans (hb.mono hB3.size)
              have hmp : (X3.alloc (.map #[] 0)).heap[X3.heap.size]? = some (.map #[] 0) := (MapKept.heap_alloc X3 _).1
              replace hog := hog.keep hb
              replace hsl := hsl.keep hb
              replace hal := hal.keep hb
              generalize (X3.alloc (.map #[] 0)) = X4 at *
              clear hb
              (first
                | (refine held_take (i := 6) (v := ?_) rfl (by kernel_rfl) (by kernel_rfl) (by kernel_rfl) (fun _ _ _ h => h) (Or.inl ⟨rfl, ?_⟩) (by assumption) ?_; rotate_left; (intro X hSw; (try dsimp only at hSw); (go_simp <;> with_reducible rfl)))
                | (refine held_take (i := 6) (v := undef) rfl (by kernel_rfl) (by kernel_rfl) (by kernel_rfl) (fun _ _ _ h => h) (Or.inr ⟨rfl, rfl⟩) (by assumption) ?_)); simp only [Act.put, List.setIfInBounds_toArray, List.set_cons_zero, List.set_cons_succ]
              have a0 : X4.cell? ⟨W.heap.size, 0, none⟩ = some (.int .i64 0) := by rw [hal.cell]; rfl
              have a1 : X4.cell? ⟨W.heap.size, 1, none⟩ = some (.slice none 0 0) := by rw [hal.cell]; rfl
              have a2 : X4.cell? ⟨W.heap.size, 2, none⟩ = some (.slice none 0 0) := by rw [hal.cell]; rfl
              have a3 : X4.cell? ⟨W.heap.size, 3, none⟩ = some (.slice none 0 0) := by rw [hal.cell]; rfl
              have a4 : X4.cell? ⟨W.heap.size, 4, none⟩ = some (.map none) := by rw [hal.cell]; rfl
              have f0 := hal.frozen 0
              have f1 := hal.frozen 1
              have f2 := hal.frozen 2
              have f3 := hal.frozen 3
              have f4 := hal.frozen 4
              have hlt7 := hal.lt
              have REL := Lib.hid (nb_of hal hsl hmp hog hIT2 hB4 (Nat.le_refl _) hB1.size hB3.size (hIT2.ok HOK.out).1)
              have SX := Lib.hid (set5_cells (X := X4) (g := W.heap.size) (cell_keep hB4 k0) (cell_keep hB4 k1) (by have := hB0.size; have := KLT.out; simp at this ⊢; omega) (.int .i64 (n : Int)) (.slice A2 z2.length cap2) (.slice (some ⟨X1.heap.size, 0, none⟩) n n) (.slice none 0 0) (.map (some X3.heap.size)))
              have HDE := Lib.hid (hIT2.ok HOK.out).1
              refine wpAnyH_ready (rs := [8]) (by kernel_rfl) (by simp) ?_
              refine AllReadyH.cons rfl (fun K hK => ?_) AllReadyH.nil
              clear hal hsl hmp hog hIT2 hB1 hB2 hB3 hB4
              obtain rfl : hd2 = (n : Int) := HDE.out
              go_simp
              refine hK.out _ _ ?_ (fun hHeld => ?_)
              · exact SX.out
              clear hK K
              refine wpAnyH_done (by kernel_rfl) ?_ _
              go_wp2_with fail
              go_meet
              exact REL.out
          · go_simp
            refine hK.out _ _ ?_ (fun hHeld => ?_)
            · exact ⟨cell_alloc (cell_keep hB2 k0) _, cell_alloc (cell_keep hB2 k1) _⟩
            clear hK K
            have hb : Below X2.heap.size X2 (X2.alloc (.map #[] 0)) := (below_box _)
            have hB3 : Below W.heap.size W (X2.alloc (.map #[] 0)) := hB2.trans (hb.mono hB2.size)
            have hmp : (X2.alloc (.map #[] 0)).heap[X2.heap.size]? = some (.map #[] 0) := (MapKept.heap_alloc X2 _).1
            replace hsl := hsl.keep hb
            replace hal := hal.keep hb
            generalize (X2.alloc (.map #[] 0)) = X3 at *
            clear hb
            refine wpAnyH_ready (rs := [1]) (by kernel_rfl) (by simp) ?_
            refine AllReadyH.cons rfl (fun K hK => ?_) AllReadyH.nil
            · go_simp
              go_wp2_with (go_at_call 62; refine (TRL.out _ hB3).mono ?_; rintro e X4 ⟨hd2, A2, cap2, z2, rfl, hIT2, hog, hb⟩)
              refine hK.out _ _ ?_ (fun hHeld => ?_)
              · exact ⟨cell_keep hb (cell_keep hB3 k0), cell_keep hb (cell_keep hB3 k1)⟩
              clear hK K
              have hB4 : Below W.heap.size W X4 := hB3.trans (hb.mono hB3.size)
              replace hog := hog.base hB3.size
              replace hsl := hsl.keep hb
              replace hmp := (hb.block _ (Array.getElem?_eq_some_iff.1 hmp).1).trans hmp
              replace hal := hal.keep hb
              clear hb
              (first
                | (refine held_take (i := 6) (v := ?_) rfl (by kernel_rfl) (by kernel_rfl) (by kernel_rfl) (fun _ _ _ h => h) (Or.inl ⟨rfl, ?_⟩) (by assumption) ?_; rotate_left; (intro X hSw; (try dsimp only at hSw); (go_simp <;> with_reducible rfl)))
                | (refine held_take (i := 6) (v := undef) rfl (by kernel_rfl) (by kernel_rfl) (by kernel_rfl) (fun _ _ _ h => h) (Or.inr ⟨rfl, rfl⟩) (by assumption) ?_)); simp only [Act.put, List.setIfInBounds_toArray, List.set_cons_zero, List.set_cons_succ]
              have a0 : X4.cell? ⟨W.heap.size, 0, none⟩ = some (.int .i64 0) := by rw [hal.cell]; rfl
              have a1 : X4.cell? ⟨W.heap.size, 1, none⟩ = some (.slice none 0 0) := by rw [hal.cell]; rfl
              have a2 : X4.cell? ⟨W.heap.size, 2, none⟩ = some (.slice none 0 0) := by rw [hal.cell]; rfl
              have a3 : X4.cell? ⟨W.heap.size, 3, none⟩ = some (.slice none 0 0) := by rw [hal.cell]; rfl
              have a4 : X4.cell? ⟨W.heap.size, 4, none⟩ = some (.map none) := by rw [hal.cell]; rfl
              have f0 := hal.frozen 0
              have f1 := hal.frozen 1
              have f2 := hal.frozen 2
              have f3 := hal.frozen 3
              have f4 := hal.frozen 4
              have hlt7 := hal.lt
              have REL := Lib.hid (nb_of hal hsl hmp hog hIT2 hB4 (Nat.le_refl _) hB1.size hB2.size (hIT2.ok HOK.out).1)
              have SX := Lib.hid (set5_cells (X := X4) (g := W.heap.size) (cell_keep hB4 k0) (cell_keep hB4 k1) (by have := hB0.size; have := KLT.out; simp at this ⊢; omega) (.int .i64 (n : Int)) (.slice A2 z2.length cap2) (.slice (some ⟨X1.heap.size, 0, none⟩) n n) (.slice none 0 0) (.map (some X2.heap.size)))
              have HDE := Lib.hid (hIT2.ok HOK.out).1
              refine wpAnyH_ready (rs := [8]) (by kernel_rfl) (by simp) ?_
              refine AllReadyH.cons rfl (fun K hK => ?_) AllReadyH.nil
              clear hal hsl hmp hog hIT2 hB1 hB2 hB3 hB4
              obtain rfl : hd2 = (n : Int) := HDE.out
              go_simp
              refine hK.out _ _ ?_ (fun hHeld => ?_)
              · exact SX.out
              clear hK K
              refine wpAnyH_done (by kernel_rfl) ?_ _
              go_wp2_with fail
              go_meet
              exact REL.out
        · go_simp
          refine hK.out _ _ ?_ (fun hHeld => ?_)
          · exact ⟨cell_alloc (cell_keep hB1 k0) _, cell_alloc (cell_keep hB1 k1) _⟩
          clear hK K
          have hb : Below X1.heap.size X1 (X1.alloc (.map #[] 0)) := (below_box _)
          have hB2 : Below W.heap.size W (X1.alloc (.map #[] 0)) := hB1.trans (hb.mono hB1.size)
          have hmp : (X1.alloc (.map #[] 0)).heap[X1.heap.size]? = some (.map #[] 0) := (MapKept.heap_alloc X1 _).1
          replace hal := hal.keep hb
          generalize (X1.alloc (.map #[] 0)) = X2 at *
          clear hb
          refine wpAnyH_ready (rs := [1, 4]) (by kernel_rfl) (by simp) ?_
          refine AllReadyH.cons rfl (fun K hK => ?_) (AllReadyH.cons rfl (fun K hK => ?_) AllReadyH.nil)
          · go_simp
            go_wp2_with (go_at_call 62; refine (TRL.out _ hB2).mono ?_; rintro e X3 ⟨hd2, A2, cap2, z2, rfl, hIT2, hog, hb⟩)
            refine hK.out _ _ ?_ (fun hHeld => ?_)
            · exact ⟨cell_keep hb (cell_keep hB2 k0), cell_keep hb (cell_keep hB2 k1)⟩
            clear hK K
            have hB3 : Below W.heap.size W X3 := hB2.trans (hb.mono hB2.size)
            replace hog := hog.base hB2.size
            replace hmp := (hb.block _ (Array.getElem?_eq_some_iff.1 hmp).1).trans hmp
            replace hal := hal.keep hb
            clear hb
            refine wpAnyH_ready (rs := [4]) (by kernel_rfl) (by simp) ?_
            refine AllReadyH.cons rfl (fun K hK => ?_) AllReadyH.nil
            · go_simp
              refine hK.out _ _ ?_ (fun hHeld => ?_)
              · exact ⟨cell_alloc (cell_keep hB3 k0) _, cell_alloc (cell_keep hB3 k1) _⟩
              clear hK K
              have hb : Below X3.heap.size X3 (X3.alloc (.cells (madeCells #[.slice none 0 0] n) 81)) := (below_box _)
              have hB4 : Below W.heap.size W (X3.alloc (.cells (madeCells #[.slice none 0 0] n) 81)) := hB3.trans (hb.mono hB3.size)
              have hsl : Own (X3.alloc (.cells (madeCells #[.slice none 0 0] n) 81)) X3.heap.size 81 (List.replicate n (.slice none 0 0)) := Own.made X3 81 (.slice none 0 0) n
              replace hog := hog.keep hb
              replace hmp := (hb.block _ (Array.getElem?_eq_some_iff.1 hmp).1).trans hmp
              replace hal := hal.keep hb
              generalize (X3.alloc (.cells (madeCells #[.slice none 0 0] n) 81)) = X4 at *
              clear hb
              (first
                | (refine held_take (i := 6) (v := ?_) rfl (by kernel_rfl) (by kernel_rfl) (by kernel_rfl) (fun _ _ _ h => h) (Or.inl ⟨rfl, ?_⟩) (by assumption) ?_; rotate_left; (intro X hSw; (try dsimp only at hSw); (go_simp <;> with_reducible rfl)))
                | (refine held_take (i := 6) (v := undef) rfl (by kernel_rfl) (by kernel_rfl) (by kernel_rfl) (fun _ _ _ h => h) (Or.inr ⟨rfl, rfl⟩) (by assumption) ?_)); simp only [Act.put, List.setIfInBounds_toArray, List.set_cons_zero, List.set_cons_succ]
              have a0 : X4.cell? ⟨W.heap.size, 0, none⟩ = some (.int .i64 0) := by rw [hal.cell]; rfl
              have a1 : X4.cell? ⟨W.heap.size, 1, none⟩ = some (.slice none 0 0) := by rw [hal.cell]; rfl
              have a2 : X4.cell? ⟨W.heap.size, 2, none⟩ = some (.slice none 0 0) := by rw [hal.cell]; rfl
              have a3 : X4.cell? ⟨W.heap.size, 3, none⟩ = some (.slice none 0 0) := by rw [hal.cell]; rfl
              have a4 : X4.cell? ⟨W.heap.size, 4, none⟩ = some (.map none) := by rw [hal.cell]; rfl
              have f0 := hal.frozen 0
              have f1 := hal.frozen 1
              have f2 := hal.frozen 2
              have f3 := hal.frozen 3
              have f4 := hal.frozen 4
              have hlt7 := hal.lt
              have REL := Lib.hid (nb_of hal hsl hmp hog hIT2 hB4 (Nat.le_refl _) hB3.size hB1.size (hIT2.ok HOK.out).1)
              have SX := Lib.hid (set5_cells (X := X4) (g := W.heap.size) (cell_keep hB4 k0) (cell_keep hB4 k1) (by have := hB0.size; have := KLT.out; simp at this ⊢; omega) (.int .i64 (n : Int)) (.slice A2 z2.length cap2) (.slice (some ⟨X3.heap.size, 0, none⟩) n n) (.slice none 0 0) (.map (some X1.heap.size)))
              have HDE := Lib.hid (hIT2.ok HOK.out).1
              refine wpAnyH_ready (rs := [8]) (by kernel_rfl) (by simp) ?_
              refine AllReadyH.cons rfl (fun K hK => ?_) AllReadyH.nil
              clear hal hsl hmp hog hIT2 hB1 hB2 hB3 hB4
              obtain rfl : hd2 = (n : Int) := HDE.out
              go_simp
              refine hK.out _ _ ?_ (fun hHeld => ?_)
              · exact SX.out
              clear hK K
              refine wpAnyH_done (by kernel_rfl) ?_ _
              go_wp2_with fail
              go_meet
              exact REL.out
          · go_simp
            refine hK.out _ _ ?_ (fun hHeld => ?_)
            · exact ⟨cell_alloc (cell_keep hB2 k0) _, cell_alloc (cell_keep hB2 k1) _⟩
            clear hK K
            have hb : Below X2.heap.size X2 (X2.alloc (.cells (madeCells #[.slice none 0 0] n) 81)) := (below_box _)
            have hB3 : Below W.heap.size W (X2.alloc (.cells (madeCells #[.slice none 0 0] n) 81)) := hB2.trans (hb.mono hB2.size)
            have hsl : Own (X2.alloc (.cells (madeCells #[.slice none 0 0] n) 81)) X2.heap.size 81 (List.replicate n (.slice none 0 0)) := Own.made X2 81 (.slice none 0 0) n
            replace hmp := (hb.block _ (Array.getElem?_eq_some_iff.1 hmp).1).trans hmp
            replace hal := hal.keep hb
            generalize (X2.alloc (.cells (madeCells #[.slice none 0 0] n) 81)) = X3 at *
            clear hb
            refine wpAnyH_ready (rs := [1]) (by kernel_rfl) (by simp) ?_
            refine AllReadyH.cons rfl (fun K hK => ?_) AllReadyH.nil
            · go_simp
              go_wp2_with (go_at_call 62; refine (TRL.out _ hB3).mono ?_; rintro e X4 ⟨hd2, A2, cap2, z2, rfl, hIT2, hog, hb⟩)
              refine hK.out _ _ ?_ (fun hHeld => ?_)
              · exact ⟨cell_keep hb (cell_keep hB3 k0), cell_keep hb (cell_keep hB3 k1)⟩
              clear hK K
              have hB4 : Below W.heap.size W X4 := hB3.trans (hb.mono hB3.size)
              replace hog := hog.base hB3.size
              replace hsl := hsl.keep hb
              replace hmp := (hb.block _ (Array.getElem?_eq_some_iff.1 hmp).1).trans hmp
              replace hal := hal.keep hb
              clear hb
              (first
                | (refine held_take (i := 6) (v := ?_) rfl (by kernel_rfl) (by kernel_rfl) (by kernel_rfl) (fun _ _ _ h => h) (Or.inl ⟨rfl, ?_⟩) (by assumption) ?_; rotate_left; (intro X hSw; (try dsimp only at hSw); (go_simp <;> with_reducible rfl)))
                | (refine held_take (i := 6) (v := undef) rfl (by kernel_rfl) (by kernel_rfl) (by kernel_rfl) (fun _ _ _ h => h) (Or.inr ⟨rfl, rfl⟩) (by assumption) ?_)); simp only [Act.put, List.setIfInBounds_toArray, List.set_cons_zero, List.set_cons_succ]
              have a0 : X4.cell? ⟨W.heap.size, 0, none⟩ = some (.int .i64 0) := by rw [hal.cell]; rfl
              have a1 : X4.cell? ⟨W.heap.size, 1, none⟩ = some (.slice none 0 0) := by rw [hal.cell]; rfl
              have a2 : X4.cell? ⟨W.heap.size, 2, none⟩ = some (.slice none 0 0) := by rw [hal.cell]; rfl
              have a3 : X4.cell? ⟨W.heap.size, 3, none⟩ = some (.slice none 0 0) := by rw [hal.cell]; rfl
              have a4 : X4.cell? ⟨W.heap.size, 4, none⟩ = some (.map none) := by rw [hal.cell]; rfl
              have f0 := hal.frozen 0
              have f1 := hal.frozen 1
              have f2 := hal.frozen 2
              have f3 := hal.frozen 3
              have f4 := hal.frozen 4
              have hlt7 := hal.lt
              have REL := Lib.hid (nb_of hal hsl hmp hog hIT2 hB4 (Nat.le_refl _) hB2.size hB1.size (hIT2.ok HOK.out).1)
              have SX := Lib.hid (set5_cells (X := X4) (g := W.heap.size) (cell_keep hB4 k0) (cell_keep hB4 k1) (by have := hB0.size; have := KLT.out; simp at this ⊢; omega) (.int .i64 (n : Int)) (.slice A2 z2.length cap2) (.slice (some ⟨X2.heap.size, 0, none⟩) n n) (.slice none 0 0) (.map (some X1.heap.size)))
              have HDE := Lib.hid (hIT2.ok HOK.out).1
              refine wpAnyH_ready (rs := [8]) (by kernel_rfl) (by simp) ?_
              refine AllReadyH.cons rfl (fun K hK => ?_) AllReadyH.nil
              clear hal hsl hmp hog hIT2 hB1 hB2 hB3 hB4
              obtain rfl : hd2 = (n : Int) := HDE.out
              go_simp
              refine hK.out _ _ ?_ (fun hHeld => ?_)
              · exact SX.out
              clear hK K
              refine wpAnyH_done (by kernel_rfl) ?_ _
              go_wp2_with fail
              go_meet
              exact REL.out
    case rest =>
      obtain ⟨bb, bh, bm, A, cap, z, rfl, hbb, hbh, hbm, hIT, hNC, hOh, hBW⟩ := hcut
      have hz4 := hIT.len
      obtain ⟨qs, hqs⟩ : ∃ qs, z.map Pv.p = qs := ⟨_, rfl⟩
      have hql : z.length = qs.length := by rw [← hqs]; simp
      rw [hql] at hNC
      rw [hqs] at hz4
      have HFH : Hid (∀ p ∈ qs, 0 ≤ p.head ∧ p.head < n) := fun p hp => by
        have h2 := (hIT.ok HOK.out).2
        rw [hqs] at h2
        obtain ⟨h3, h4, _⟩ := (ok_fit h2).1 p hp
        exact ⟨h3, h4⟩
      have HQS := Lib.hid hqs
      have HQL := Lib.hid hql
      have HIT := Lib.hid hIT
      have hUO : UO W.heap.size bh n (fun _ => .slice none 0 0) (fun _ => []) wc := by
        refine ⟨?_, hbh, fun i hi => World.ownsRow_nil _ _ _ _, fun i j b _ _ _ e => ?_⟩
        · have e : (List.range n).map (fun _ => (.slice none 0 0 : Value)) = List.replicate n (.slice none 0 0) := List.ext_getElem (by simp) (fun i h1 h2 => by simp)
          rw [e]; exact hOh
        · have e' : (none : Option Nat) = some b := e
          cases e'
      have b1 : wc.cell? ⟨bb, 1, none⟩ = some (.slice A qs.length cap) := by rw [hNC.b.cell]; rfl
      obtain ⟨i0, hi0, hz0, hz1, hz2⟩ := info_parts info3
      have HI := Lib.hid (And.intro hi0 (And.intro hz0 (And.intro hz1 hz2)))
      clear hi0 hz0 hz1 hz2 hqs hql hIT hOh hmk hmm k0 k1
      go_wp2
      go_loopw [21] (fun i wr => ∃ k : Nat, k ≤ qs.length ∧ i = .int .i64 k ∧ ∃ val us, UO W.heap.size bh n val us wr ∧ Hid (∀ h, h < n → (us h).length ≤ k) ∧ NC W.heap.size bb bm A cap z [.int .i64 (n : Int), .slice A qs.length cap, .slice (some ⟨bh, 0, none⟩) n n, .slice none 0 0, .map (some bm)] wr ∧ Below W.heap.size W wr) (fun i _ => qs.length - (intOf i).toNat)
      case atStart => exact ⟨0, Nat.zero_le _, rfl, _, _, hUO, fun h _ => Nat.le_refl _, hNC, hBW⟩
      case round =>
        clear hUO hNC hBW b1
        obtain ⟨k, hk, rfl, val, us, hUO, HU, hNC, hb⟩ := hrel
        by_cases hlt : k < qs.length
        · have hPD : Pds wr A qs := by rw [← HQS.out]; exact hNC.g.pds
          obtain ⟨b, off, rfl, K, kc, hn⟩ := hPD.at_ hlt
          have hlt' : (k : Int) < (qs.length : Int) := by omega
          have hph := HFH.out _ (List.getElem_mem hlt)
          have c0 := hn.c0
          have c1 := hn.c1
          clear hn hPD
          generalize qs[k] = p at *
          obtain ⟨x, hx⟩ : ∃ x : Nat, p.head = x := ⟨p.head.toNat, by omega⟩
          rw [hx] at c0 hph
          have hxn : x < n := by omega
          have hxn' : (x : Int) < (n : Int) := by omega
          clear hph hx
          have hUO3 := hUO.keep (below_box (.cells #[.int .i64 (x : Int), .slice K p.body.length kc] 57))
          have hNC3 := hNC.keep (below_box (.cells #[.int .i64 (x : Int), .slice K p.body.length kc] 57))
          have hb3 := hb.alloc hb.size (.cells #[.int .i64 (x : Int), .slice K p.body.length kc] 57)
          have hox := hUO.own x hxn
          have hcx := hUO.cell hxn
          have hlx := HU.out x hxn
          obtain ⟨Ax, ac, hv⟩ := own_form hox
          rw [hv] at hcx hox
          have HV := Lib.hid hv
          have hq0 : (wr.alloc (.cells #[.int .i64 (x : Int), .slice K p.body.length kc] 57)).cell? ⟨wr.heap.size, 0, none⟩ = some (.int .i64 (x : Int)) := by simp
          have hcx2 : (wr.alloc (.cells #[.int .i64 (x : Int), .slice K p.body.length kc] 57)).cell? ⟨bh, x, none⟩ = some (.slice Ax (us x).length ac) := cell_alloc hcx _
          have hbb2 : (wr.alloc (.cells #[.int .i64 (x : Int), .slice K p.body.length kc] 57)).cell? ⟨bb, 2, none⟩ = some (.slice (some ⟨bh, 0, none⟩) n n) := by rw [hNC3.b.cell]; rfl
          have HSZ : Hid ((wr.alloc (.cells #[.int .i64 (x : Int), .slice K p.body.length kc] 57)).heap.size = wr.heap.size + 1) := by show _ = _; simp
          have hox2 := own_keep hox (below_box (.cells #[.int .i64 (x : Int), .slice K p.body.length kc] 57))
          have HNE : Hid ((Value.slice Ax (us x).length ac).ownBlock ≠ some wr.heap.size) := fun e => by have := (hox.lt _ e).2; omega
          have hbhl := hUO.row.lt
          have HUO3 := Lib.hid hUO3
          have HNC3 := Lib.hid hNC3
          have HB3 := Lib.hid hb3
          clear hcx hox hUO3 hNC3 hb3 hUO hNC hb hv
          go_wp2_with fail
          clear c0 c1
          generalize wr.alloc (.cells #[.int .i64 (x : Int), .slice K p.body.length kc] 57) = W3 at *
          refine wp_region_held_drew (S := (fun X => X.cell? ⟨wr.heap.size, 0, none⟩ = some (.int .i64 (x : Int)) ∧ X.cell? ⟨bb, 2, none⟩ = some (.slice (some ⟨bh, 0, none⟩) n n))) (by kernel_rfl) ?_ (fun hHeld => ?_)
          · exact ⟨hq0, hbb2⟩
          (first
            | (refine held_take (i := 0) (v := ?_) rfl (by kernel_rfl) (by kernel_rfl) (by kernel_rfl) (fun _ _ _ h => h) (Or.inl ⟨rfl, ?_⟩) (by assumption) ?_; rotate_left; (intro X hSw; (try dsimp only at hSw); (go_simp <;> with_reducible rfl)))
            | (refine held_take (i := 0) (v := undef) rfl (by kernel_rfl) (by kernel_rfl) (by kernel_rfl) (fun _ _ _ h => h) (Or.inr ⟨rfl, rfl⟩) (by assumption) ?_)); simp only [Act.put, List.setIfInBounds_toArray, List.set_cons_zero, List.set_cons_succ]
          (first
            | (refine held_take (i := 1) (v := ?_) rfl (by kernel_rfl) (by kernel_rfl) (by kernel_rfl) (fun _ _ _ h => h) (Or.inl ⟨rfl, ?_⟩) (by assumption) ?_; rotate_left; (intro X hSw; (try dsimp only at hSw); (go_simp <;> with_reducible rfl)))
            | (refine held_take (i := 1) (v := undef) rfl (by kernel_rfl) (by kernel_rfl) (by kernel_rfl) (fun _ _ _ h => h) (Or.inr ⟨rfl, rfl⟩) (by assumption) ?_)); simp only [Act.put, List.setIfInBounds_toArray, List.set_cons_zero, List.set_cons_succ]
          (first
            | (refine held_take (i := 2) (v := ?_) rfl (by kernel_rfl) (by kernel_rfl) (by kernel_rfl) (fun _ _ _ h => h) (Or.inl ⟨rfl, ?_⟩) (by assumption) ?_; rotate_left; (intro X hSw; (try dsimp only at hSw); (go_simp <;> with_reducible rfl)))
            | (refine held_take (i := 2) (v := undef) rfl (by kernel_rfl) (by kernel_rfl) (by kernel_rfl) (fun _ _ _ h => h) (Or.inr ⟨rfl, rfl⟩) (by assumption) ?_)); simp only [Act.put, List.setIfInBounds_toArray, List.set_cons_zero, List.set_cons_succ]
          (first
            | (refine held_take (i := 3) (v := ?_) rfl (by kernel_rfl) (by kernel_rfl) (by kernel_rfl) (fun _ _ _ h => h) (Or.inl ⟨rfl, ?_⟩) (by assumption) ?_; rotate_left; (intro X hSw; (try dsimp only at hSw); (go_simp <;> with_reducible rfl)))
            | (refine held_take (i := 3) (v := undef) rfl (by kernel_rfl) (by kernel_rfl) (by kernel_rfl) (fun _ _ _ h => h) (Or.inr ⟨rfl, rfl⟩) (by assumption) ?_)); simp only [Act.put, List.setIfInBounds_toArray, List.set_cons_zero, List.set_cons_succ]
          (first
            | (refine held_take (i := 4) (v := ?_) rfl (by kernel_rfl) (by kernel_rfl) (by kernel_rfl) (fun _ _ _ h => h) (Or.inl ⟨rfl, ?_⟩) (by assumption) ?_; rotate_left; (intro X hSw; (try dsimp only at hSw); (go_simp <;> with_reducible rfl)))
            | (refine held_take (i := 4) (v := undef) rfl (by kernel_rfl) (by kernel_rfl) (by kernel_rfl) (fun _ _ _ h => h) (Or.inr ⟨rfl, rfl⟩) (by assumption) ?_)); simp only [Act.put, List.setIfInBounds_toArray, List.set_cons_zero, List.set_cons_succ]
          (first
            | (refine held_take (i := 5) (v := ?_) rfl (by kernel_rfl) (by kernel_rfl) (by kernel_rfl) (fun _ _ _ h => h) (Or.inl ⟨rfl, ?_⟩) (by assumption) ?_; rotate_left; (intro X hSw; (try dsimp only at hSw); (go_simp <;> with_reducible rfl)))
            | (refine held_take (i := 5) (v := undef) rfl (by kernel_rfl) (by kernel_rfl) (by kernel_rfl) (fun _ _ _ h => h) (Or.inr ⟨rfl, rfl⟩) (by assumption) ?_)); simp only [Act.put, List.setIfInBounds_toArray, List.set_cons_zero, List.set_cons_succ]
          (first
            | (refine held_take (i := 6) (v := ?_) rfl (by kernel_rfl) (by kernel_rfl) (by kernel_rfl) (fun _ _ _ h => h) (Or.inl ⟨rfl, ?_⟩) (by assumption) ?_; rotate_left; (intro X hSw; (try dsimp only at hSw); (go_simp <;> with_reducible rfl)))
            | (refine held_take (i := 6) (v := undef) rfl (by kernel_rfl) (by kernel_rfl) (by kernel_rfl) (fun _ _ _ h => h) (Or.inr ⟨rfl, rfl⟩) (by assumption) ?_)); simp only [Act.put, List.setIfInBounds_toArray, List.set_cons_zero, List.set_cons_succ]
          (first
            | (refine held_take (i := 7) (v := ?_) rfl (by kernel_rfl) (by kernel_rfl) (by kernel_rfl) (fun _ _ _ h => h) (Or.inl ⟨rfl, ?_⟩) (by assumption) ?_; rotate_left; (intro X hSw; (try dsimp only at hSw); (go_simp <;> with_reducible rfl)))
            | (refine held_take (i := 7) (v := undef) rfl (by kernel_rfl) (by kernel_rfl) (by kernel_rfl) (fun _ _ _ h => h) (Or.inr ⟨rfl, rfl⟩) (by assumption) ?_)); simp only [Act.put, List.setIfInBounds_toArray, List.set_cons_zero, List.set_cons_succ]
          (first
            | (refine held_take (i := 8) (v := ?_) rfl (by kernel_rfl) (by kernel_rfl) (by kernel_rfl) (fun _ _ _ h => h) (Or.inl ⟨rfl, ?_⟩) (by assumption) ?_; rotate_left; (intro X hSw; (try dsimp only at hSw); (go_simp <;> with_reducible rfl)))
            | (refine held_take (i := 8) (v := undef) rfl (by kernel_rfl) (by kernel_rfl) (by kernel_rfl) (fun _ _ _ h => h) (Or.inr ⟨rfl, rfl⟩) (by assumption) ?_)); simp only [Act.put, List.setIfInBounds_toArray, List.set_cons_zero, List.set_cons_succ]
          (first
            | (refine held_take (i := 10) (v := ?_) rfl (by kernel_rfl) (by kernel_rfl) (by kernel_rfl) (fun _ _ _ h => h) (Or.inl ⟨rfl, ?_⟩) (by assumption) ?_; rotate_left; (intro X hSw; (try dsimp only at hSw); (go_simp <;> with_reducible rfl)))
            | (refine held_take (i := 10) (v := undef) rfl (by kernel_rfl) (by kernel_rfl) (by kernel_rfl) (fun _ _ _ h => h) (Or.inr ⟨rfl, rfl⟩) (by assumption) ?_)); simp only [Act.put, List.setIfInBounds_toArray, List.set_cons_zero, List.set_cons_succ]
          refine wpAnyH_ready (rs := [9, 11]) (by kernel_rfl) (by simp) ?_
          refine AllReadyH.cons rfl (fun K hK => ?_) (AllReadyH.cons rfl (fun K hK => ?_) AllReadyH.nil)
          · go_simp
            refine hK.out _ _ ?_ (fun hHeld => ?_)
            · exact ⟨hq0, hbb2⟩
            clear hK K
            refine wpAnyH_ready (rs := [11]) (by kernel_rfl) (by simp) ?_
            refine AllReadyH.cons rfl (fun K hK => ?_) AllReadyH.nil
            go_simp
            refine hK.out _ _ ?_ (fun hHeld => ?_)
            · exact ⟨cell_alloc hq0 _, cell_alloc hbb2 _⟩
            clear hK K
            refine wpAnyH_ready (rs := [12]) (by kernel_rfl) (by simp) ?_
            refine AllReadyH.cons rfl (fun K hK => ?_) AllReadyH.nil
            refine step_own_v _ rfl _ _ 81 rfl W.heap.size 3 i0 (.int .i64 0) 1 8 Try.underlying81 HI.out.1 HI.out.2.1 HI.out.2.2.1 HI.out.2.2.2 rfl (by decide) _ _ _ rfl (own_keep hox2 (below_box (.cells #[.int .i64 (k : Nat)] 3))).drew ⟨W3.heap.size, 0, none⟩ 1 1 [.int .i64 (k : Nat)] rfl rfl (cell_one_new W3 (.int .i64 (k : Nat)) 3) ?dA2 ?dA3 ?dA4 ?dA5 ?_
            case dA2 => (intro u hu; simp at hu; subst hu; rfl)
            case dA3 => unfold maxLen; omega
            case dA4 => omega
            case dA5 => (have h1 := HB3.out.size; show W.heap.size ≤ (W3.alloc _).heap.size; rw [World.size_alloc]; omega)
            intro v5 w5 ho5 hg5 hat5
            have hUW := (HUO3.out.keep (below_box (.cells #[.int .i64 (k : Nat)] 3))).keep (Below.refl _ _).drew
            have hg5' : (W3.alloc (.cells #[.int .i64 (k : Nat)] 3)).drew.grownBy w5 (val x).ownBlock := by rw [HV.out]; exact hg5
            have hNC5 := ((HNC3.out.keep (below_box (.cells #[.int .i64 (k : Nat)] 3))).keep (Below.refl _ _).drew).grown hg5' (fun k hk => kind3 (hUW.own x hxn) hk)
            have hq5 : w5.cell? ⟨wr.heap.size, 0, none⟩ = some (.int .i64 (x : Int)) := by
              rw [World.cell?_of_block (hg5.block wr.heap.size (by show _ < (W3.alloc _).heap.size; rw [World.size_alloc, HSZ.out]; omega) (fun e => HNE.out e.symm))]
              exact cell_alloc hq0 _
            have hbb5 : w5.cell? ⟨bb, 2, none⟩ = some (.slice (some ⟨bh, 0, none⟩) n n) := by rw [hNC5.b.cell]; rfl
            refine hK.out _ _ ?_ (fun hHeld => ?_)
            · exact ⟨hq5, hbb5⟩
            clear hK K
            (first
              | (refine held_take (i := 13) (v := ?_) rfl (by kernel_rfl) (by kernel_rfl) (by kernel_rfl) (fun _ _ _ h => h) (Or.inl ⟨rfl, ?_⟩) (by assumption) ?_; rotate_left; (intro X hSw; (try dsimp only at hSw); (go_simp <;> with_reducible rfl)))
              | (refine held_take (i := 13) (v := undef) rfl (by kernel_rfl) (by kernel_rfl) (by kernel_rfl) (fun _ _ _ h => h) (Or.inr ⟨rfl, rfl⟩) (by assumption) ?_)); simp only [Act.put, List.setIfInBounds_toArray, List.set_cons_zero, List.set_cons_succ]
            refine wpAnyH_ready (rs := [14]) (by kernel_rfl) (by simp) ?_
            refine AllReadyH.cons rfl (fun K hK => ?_) AllReadyH.nil
            have hat5' : v5.ownBlock = (val x).ownBlock ∨ v5.ownBlock = some (W3.alloc (.cells #[.int .i64 (k : Nat)] 3)).drew.heap.size := by rw [HV.out]; exact hat5
            have hUN := hUW.app hxn ho5 hg5' hat5'
            have hU5 : Own w5 bh 81 ((List.range n).map val) := (hg5'.block _ hUW.row.lt (fun e => hUW.rowNe hxn e.symm)).trans hUW.row
            obtain ⟨A5, a5, hv5⟩ := own_form ho5
            subst hv5
            have u5 : w5.cell? ⟨bh, x, none⟩ = some (val x) := by rw [hU5.cell]; simp [hxn]
            rw [HV.out] at u5
            have fu5 := hU5.frozen x
            have hU5l := hU5.lt
            have hbN : Below W.heap.size W w5 := ((HB3.out.alloc HB3.out.size _).drew).grown hg5 (by have := HB3.out.size; show _ ≤ (W3.alloc _).heap.size; rw [World.size_alloc]; omega) (fun k hk => (hox2.lt k hk).1)
            have hbN2 : Below W.heap.size W (w5.setCell ⟨bh, x, none⟩ (.slice A5 ((us x).length + 1) a5)) := hbN.setCell (by simpa using hbh) _
            have HNC6 := Lib.hid (hNC5.far hU5 (by decide) (by decide) (by decide) (i := x) (.slice A5 ((us x).length + 1) a5))
            have HUN := Lib.hid hUN
            have HBN := Lib.hid hbN2
            have HUL : Hid (∀ h, h < n → (updL us x (us x ++ [k]) h).length ≤ k + 1) := fun h hh => by
              unfold updL
              split
              · have := HU.out x hxn; simp; omega
              · have := HU.out h hh; omega
            have hq6 : (w5.setCell ⟨bh, x, none⟩ (.slice A5 ((us x).length + 1) a5)).cell? ⟨wr.heap.size, 0, none⟩ = some (.int .i64 (x : Int)) := (World.cell?_of_block (Below.heap_setCell w5 ⟨bh, x, none⟩ _ wr.heap.size (by simp; omega))).trans hq5
            have hbb6 : (w5.setCell ⟨bh, x, none⟩ (.slice A5 ((us x).length + 1) a5)).cell? ⟨bb, 2, none⟩ = some (.slice (some ⟨bh, 0, none⟩) n n) := by rw [HNC6.out.b.cell]; rfl
            clear hUW hg5' hat5' hUN hU5 ho5 hg5 hat5 hbN hbN2 hNC5
            go_simp
            refine hK.out _ _ ?_ (fun hHeld => ?_)
            · exact ⟨hq6, hbb6⟩
            clear hK K
            refine wpAnyH_done (by kernel_rfl) ?_ _
            clear hq6 hbb6 hq5 hbb5 HU
            go_wp2
            go_roundw
            case rel => exact ⟨k + 1, by omega, by go_num, _, _, HUN.out, HUL, HNC6.out, HBN.out⟩
            case measure => simp [intOf]; omega
          · go_simp
            refine hK.out _ _ ?_ (fun hHeld => ?_)
            · exact ⟨cell_alloc hq0 _, cell_alloc hbb2 _⟩
            clear hK K
            have hcx3 := cell_alloc hcx2 (.cells #[.int .i64 (k : Nat)] 3)
            refine wpAnyH_ready (rs := [9]) (by kernel_rfl) (by simp) ?_
            refine AllReadyH.cons rfl (fun K hK => ?_) AllReadyH.nil
            go_simp
            refine hK.out _ _ ?_ (fun hHeld => ?_)
            · exact ⟨cell_alloc hq0 _, cell_alloc hbb2 _⟩
            clear hK K
            refine wpAnyH_ready (rs := [12]) (by kernel_rfl) (by simp) ?_
            refine AllReadyH.cons rfl (fun K hK => ?_) AllReadyH.nil
            refine step_own_v _ rfl _ _ 81 rfl W.heap.size 3 i0 (.int .i64 0) 1 8 Try.underlying81 HI.out.1 HI.out.2.1 HI.out.2.2.1 HI.out.2.2.2 rfl (by decide) _ _ _ rfl (own_keep hox2 (below_box (.cells #[.int .i64 (k : Nat)] 3))).drew ⟨W3.heap.size, 0, none⟩ 1 1 [.int .i64 (k : Nat)] rfl rfl (cell_one_new W3 (.int .i64 (k : Nat)) 3) ?dB2 ?dB3 ?dB4 ?dB5 ?_
            case dB2 => (intro u hu; simp at hu; subst hu; rfl)
            case dB3 => unfold maxLen; omega
            case dB4 => omega
            case dB5 => (have h1 := HB3.out.size; show W.heap.size ≤ (W3.alloc _).heap.size; rw [World.size_alloc]; omega)
            intro v5 w5 ho5 hg5 hat5
            have hUW := (HUO3.out.keep (below_box (.cells #[.int .i64 (k : Nat)] 3))).keep (Below.refl _ _).drew
            have hg5' : (W3.alloc (.cells #[.int .i64 (k : Nat)] 3)).drew.grownBy w5 (val x).ownBlock := by rw [HV.out]; exact hg5
            have hNC5 := ((HNC3.out.keep (below_box (.cells #[.int .i64 (k : Nat)] 3))).keep (Below.refl _ _).drew).grown hg5' (fun k hk => kind3 (hUW.own x hxn) hk)
            have hq5 : w5.cell? ⟨wr.heap.size, 0, none⟩ = some (.int .i64 (x : Int)) := by
              rw [World.cell?_of_block (hg5.block wr.heap.size (by show _ < (W3.alloc _).heap.size; rw [World.size_alloc, HSZ.out]; omega) (fun e => HNE.out e.symm))]
              exact cell_alloc hq0 _
            have hbb5 : w5.cell? ⟨bb, 2, none⟩ = some (.slice (some ⟨bh, 0, none⟩) n n) := by rw [hNC5.b.cell]; rfl
            refine hK.out _ _ ?_ (fun hHeld => ?_)
            · exact ⟨hq5, hbb5⟩
            clear hK K
            (first
              | (refine held_take (i := 13) (v := ?_) rfl (by kernel_rfl) (by kernel_rfl) (by kernel_rfl) (fun _ _ _ h => h) (Or.inl ⟨rfl, ?_⟩) (by assumption) ?_; rotate_left; (intro X hSw; (try dsimp only at hSw); (go_simp <;> with_reducible rfl)))
              | (refine held_take (i := 13) (v := undef) rfl (by kernel_rfl) (by kernel_rfl) (by kernel_rfl) (fun _ _ _ h => h) (Or.inr ⟨rfl, rfl⟩) (by assumption) ?_)); simp only [Act.put, List.setIfInBounds_toArray, List.set_cons_zero, List.set_cons_succ]
            refine wpAnyH_ready (rs := [14]) (by kernel_rfl) (by simp) ?_
            refine AllReadyH.cons rfl (fun K hK => ?_) AllReadyH.nil
            have hat5' : v5.ownBlock = (val x).ownBlock ∨ v5.ownBlock = some (W3.alloc (.cells #[.int .i64 (k : Nat)] 3)).drew.heap.size := by rw [HV.out]; exact hat5
            have hUN := hUW.app hxn ho5 hg5' hat5'
            have hU5 : Own w5 bh 81 ((List.range n).map val) := (hg5'.block _ hUW.row.lt (fun e => hUW.rowNe hxn e.symm)).trans hUW.row
            obtain ⟨A5, a5, hv5⟩ := own_form ho5
            subst hv5
            have u5 : w5.cell? ⟨bh, x, none⟩ = some (val x) := by rw [hU5.cell]; simp [hxn]
            rw [HV.out] at u5
            have fu5 := hU5.frozen x
            have hU5l := hU5.lt
            have hbN : Below W.heap.size W w5 := ((HB3.out.alloc HB3.out.size _).drew).grown hg5 (by have := HB3.out.size; show _ ≤ (W3.alloc _).heap.size; rw [World.size_alloc]; omega) (fun k hk => (hox2.lt k hk).1)
            have hbN2 : Below W.heap.size W (w5.setCell ⟨bh, x, none⟩ (.slice A5 ((us x).length + 1) a5)) := hbN.setCell (by simpa using hbh) _
            have HNC6 := Lib.hid (hNC5.far hU5 (by decide) (by decide) (by decide) (i := x) (.slice A5 ((us x).length + 1) a5))
            have HUN := Lib.hid hUN
            have HBN := Lib.hid hbN2
            have HUL : Hid (∀ h, h < n → (updL us x (us x ++ [k]) h).length ≤ k + 1) := fun h hh => by
              unfold updL
              split
              · have := HU.out x hxn; simp; omega
              · have := HU.out h hh; omega
            have hq6 : (w5.setCell ⟨bh, x, none⟩ (.slice A5 ((us x).length + 1) a5)).cell? ⟨wr.heap.size, 0, none⟩ = some (.int .i64 (x : Int)) := (World.cell?_of_block (Below.heap_setCell w5 ⟨bh, x, none⟩ _ wr.heap.size (by simp; omega))).trans hq5
            have hbb6 : (w5.setCell ⟨bh, x, none⟩ (.slice A5 ((us x).length + 1) a5)).cell? ⟨bb, 2, none⟩ = some (.slice (some ⟨bh, 0, none⟩) n n) := by rw [HNC6.out.b.cell]; rfl
            clear hUW hg5' hat5' hUN hU5 ho5 hg5 hat5 hbN hbN2 hNC5
            go_simp
            refine hK.out _ _ ?_ (fun hHeld => ?_)
            · exact ⟨hq6, hbb6⟩
            clear hK K
            refine wpAnyH_done (by kernel_rfl) ?_ _
            clear hq6 hbb6 hq5 hbb5 HU
            go_wp2
            go_roundw
            case rel => exact ⟨k + 1, by omega, by go_num, _, _, HUN.out, HUL, HNC6.out, HBN.out⟩
            case measure => simp [intOf]; omega
        · have hlt' : ¬ (k : Int) < (qs.length : Int) := by omega
          have e1 : ((n : Int)).toNat = n := by omega
          have FIN : Hid (NewPost (n : Int) ps w (.returned (.tuple #[.pointer (some ⟨bb, 0, none⟩), .bool true])) wr) := by
            refine Or.inr ⟨HOK.out, bb, bh, bm, A, cap, z, rfl, Nat.le_trans HB1.out.size hbb, ?_, HIT.out, ?_, HB1.out.trans (hb.mono HB1.out.size)⟩
            · exact Nat.le_trans HB1.out.size hbm
            · rw [e1, HQL.out]
              exact ⟨hNC.b, hNC.m, hNC.g.base HB1.out.size⟩
          go_wp2
          refine bodyPost_ret (v := .tuple #[.pointer (some ⟨bb, 0, none⟩), .bool true]) (by simp [results, Try.results44, go_sem]) rfl FIN.out

end Go.Proofs.Ytafldjbmheopjaa
