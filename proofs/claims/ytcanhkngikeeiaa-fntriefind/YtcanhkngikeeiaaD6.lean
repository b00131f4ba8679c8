/- What l71Voc does: a vocabulary is drawn. -/
import Derived.Test.YtcanhkngikeeiaaD5
import Derived.Deep.CutBlock
import Derived.Deep.LoopGhost
namespace Go.Proofs.Ytcanhkngikeeiaa
open Go.RowKit
set_option linter.unusedVariables false

/-- A vocabulary is drawn: few short pieces in new memory, and an end; of what was there only the reader's block has turned. -/
def VocPost (w : World) (B g N : Nat) (e : Ending) (w' : World) : Prop :=
  ∃ (ss : List ByteArray) (en : Int) (A : Option Addr) (cap : Nat), e = .returned (.agg #[.slice A ss.length cap, .int .i64 en]) ∧ ss.length ≤ 50 ∧ (∀ s ∈ ss, s.size ≤ 10) ∧ -2 ≤ en ∧ en ≤ 50 ∧
    w'.ownsRow w.heap.size 9 1 (.slice A ss.length cap) ss.length (strs ss) ∧ Rd w' B g (N + 1000) ∧ w.grownBy w' (some g)

theorem VS.start {w : World} {B g N : Nat} (hr : Rd w B g N) (hB : B ≤ w.heap.size) :
    VS w B g N (-1) [] none 0 ((w.alloc (.cells #[.slice none 0 0, .int .i64 0] 25)).alloc (.cells #[.slice none 0 0, .int .i64 (-1)] 25)) :=
  ⟨by simpa using Own.new (w.alloc (.cells #[.slice none 0 0, .int .i64 0] 25)) 25 #[.slice none 0 0, .int .i64 (-1)], (Own.new w 25 #[.slice none 0 0, .int .i64 0]).alloc _, by simpa [strs] using World.ownsRow_nil _ _ _ _,
    (hr.alloc hB _).alloc (by simp; omega) _, only_alloc (only_alloc (only_of_below (Below.refl _ _) (Nat.le_refl _) _) _) _, by simp, hB⟩

theorem VS.kept {w0 w w' : World} {B g N : Nat} {en : Int} {ss : List ByteArray} {A : Option Addr} {cap : Nat} (h : VS w0 B g N en ss A cap w) (hg : w.grownBy w' (Value.slice A ss.length cap).ownBlock) :
    w'.cell? ⟨w0.heap.size + 1, 0, none⟩ = some (.slice A ss.length cap) ∧ w'.frozen? ⟨w0.heap.size + 1, 0, none⟩ = false := by
  have hv : Own w' (w0.heap.size + 1) 25 [.slice A ss.length cap, .int .i64 en] := (hg.block _ h.v.lt (fun e => by have := (h.p.lt _ e.symm).1; omega)).trans h.v
  exact ⟨by rw [hv.cell]; rfl, hv.frozen 0⟩

theorem strs_app (ss : List ByteArray) (s : ByteArray) : strs ss ++ [.string s] = strs (ss ++ [s]) := by simp [strs]

theorem own_touch {w w' : World} {b g : Nat} {t : TypeId} {xs : List Value} (h : Own w b t xs) (hg : w.grownBy w' (some g)) (hne : b ≠ g) : Own w' b t xs :=
  (hg.block b h.lt (fun e => hne (by injection e))).trans h

/-- The end: the result's block is filled. -/
theorem VS.done {w0 w : World} {B g N M : Nat} {en : Int} {ss : List ByteArray} {A : Option Addr} {cap : Nat} (h : VS w0 B g M en ss A cap w) (hM : M ≤ N + 1000) (hl : ss.length ≤ 50) (he : -2 ≤ en ∧ en ≤ 50) :
    VocPost w0 B g N (.returned (.agg #[.slice A ss.length cap, .int .i64 en])) ((w.setCell ⟨w0.heap.size, 0, none⟩ (.slice A ss.length cap)).setCell ⟨w0.heap.size, 1, none⟩ (.int .i64 en)) := by
  have hb := h.hB
  have hfr : w0.grownBy ((w.setCell ⟨w0.heap.size, 0, none⟩ (.slice A ss.length cap)).setCell ⟨w0.heap.size, 1, none⟩ (.int .i64 en)) (some g) :=
    ⟨h.fr.os, h.fr.tape, h.fr.output, by simpa [World.setCell] using h.fr.size, fun i hi hne => ((Below.heap_setCell _ _ _ i (by simp; omega)).trans (Below.heap_setCell _ _ _ i (by simp; omega))).trans (h.fr.block i hi hne)⟩
  exact ⟨ss, en, A, cap, rfl, hl, h.sz, he.1, he.2, own_base (own_far (own_far h.p (by simp) _) (by simp) _) (by omega), ((h.rd.setCell (by simp; omega) _).setCell (by simp; omega) _).mono (Nat.le_refl _) hM, hfr⟩

/-- What the result's block then holds. -/
theorem VS.res {w0 w : World} {B g M : Nat} {en : Int} {ss : List ByteArray} {A : Option Addr} {cap : Nat} (h : VS w0 B g M en ss A cap w) (a b : Value) :
    (w.setCell ⟨w0.heap.size, 0, none⟩ a).cell? ⟨w0.heap.size, 0, none⟩ = some a ∧ ((w.setCell ⟨w0.heap.size, 0, none⟩ a).setCell ⟨w0.heap.size, 1, none⟩ b).cell? ⟨w0.heap.size, 1, none⟩ = some b := by
  have h1 := h.r.set_ 0 a
  have h2 := h1.set_ 1 b
  exact ⟨by rw [h1.cell]; rfl, by rw [h2.cell]; rfl⟩

/-- The pieces are dropped. -/
theorem VS.drop {w0 w : World} {B g N : Nat} {en : Int} {ss : List ByteArray} {A : Option Addr} {cap : Nat} (h : VS w0 B g N en ss A cap w) :
    VS w0 B g N en [] none 0 (w.setCell ⟨w0.heap.size + 1, 0, none⟩ (.slice none 0 0)) :=
  ⟨by simpa using h.v.set_ 0 (.slice none 0 0), h.r.far (by simp) _, by simpa [strs] using World.ownsRow_nil _ _ _ _, (h.far _ rfl).2, (h.far _ rfl).1, by simp, h.hB⟩

/-- A piece is written. -/
theorem VS.setFirst {w0 w : World} {B g N G : Nat} {en : Int} {ss : List ByteArray} {cap : Nat} (h : VS w0 B g N en ss (some ⟨G, 0, none⟩) cap w) (t : ByteArray) (ht : t.size ≤ 10) :
    VS w0 B g N en (ss.set 0 t) (some ⟨G, 0, none⟩) cap (w.setCell ⟨G, 0, none⟩ (.string t)) := by
  have hG : w0.heap.size + 2 ≤ G := (h.p.lt G rfl).1
  obtain ⟨h1, h2⟩ := h.p.stored 0 (.string t)
  have hb := h.hB
  refine ⟨?_, h.r.far (by simp; omega) _, ?_, h.rd.setCell (by simp; omega) _, ?_, ?_, h.hB⟩
  · simpa using h.v.far (p := ⟨G, 0, none⟩) (by simp; omega) _
  · have e : (strs ss).set 0 (.string t) = strs (ss.set 0 t) := by simp [strs, List.map_set]
    rw [e] at h1
    simpa using h1
  · exact only_new h.fr h2 (fun k hk => by injection hk with hk; omega)
  · intro s hs
    rcases List.mem_or_eq_of_mem_set hs with h3 | h3
    · exact h.sz s h3
    · rw [h3]; exact ht
theorem VS.first {w0 w : World} {B g N : Nat} {en : Int} {ss : List ByteArray} {A : Option Addr} {cap : Nat} (h : VS w0 B g N en ss A cap w) (h0 : 0 < ss.length) :
    ∃ G, A = some ⟨G, 0, none⟩ := by
  rcases h.p.2 with ⟨_, h1⟩ | ⟨g', cap', cur, hv, _⟩
  · omega
  · exact ⟨g', by injection hv⟩
theorem VS.f_cell {w0 w : World} {B g N G : Nat} {en : Int} {ss : List ByteArray} {cap : Nat} (h : VS w0 B g N en ss (some ⟨G, 0, none⟩) cap w) (h0 : 0 < ss.length) :
    (∃ v, w.cell? ⟨G, 0, none⟩ = some v) ∧ w.frozen? ⟨G, 0, none⟩ = false ∧ w0.heap.size + 2 ≤ G := by
  refine ⟨?_, h.p.frozenAt 0, (h.p.lt G rfl).1⟩
  rw [h.p.cellAt 0 (by omega)]
  exact ⟨(strs ss)[0]'(by simpa using h0), List.getElem?_eq_getElem _⟩

/-- The four pieces that are always there. -/
def four : List Value := [.string ⟨#[97]⟩, .string ⟨#[98]⟩, .string ⟨#[]⟩, .string ⟨#[48]⟩]
theorem four_one : ∀ u ∈ four, u.oneCell' = true := by intro u hu; simp [four] at hu; rcases hu with rfl | rfl | rfl | rfl <;> rfl
theorem own_four {w : World} {base : Nat} {v : Value} {ss : List ByteArray} (h : w.ownsRow base 9 1 v (ss.length + 4) (strs ss ++ four)) (hs : ∀ s ∈ ss, s.size ≤ 10) :
    ∃ A cap ss', v = .slice A (ss.length + 4) cap ∧ ss'.length = ss.length + 4 ∧ (∀ s ∈ ss', s.size ≤ 10) ∧ w.ownsRow base 9 1 (.slice A ss'.length cap) ss'.length (strs ss') := by
  have e : strs ss ++ four = strs (ss ++ [⟨#[97]⟩, ⟨#[98]⟩, ⟨#[]⟩, ⟨#[48]⟩]) := by simp [strs, four]
  rw [e] at h
  obtain ⟨A, cap, rfl⟩ := own_form h
  refine ⟨A, cap, ss ++ [⟨#[97]⟩, ⟨#[98]⟩, ⟨#[]⟩, ⟨#[48]⟩], rfl, by simp, fun s hm => ?_, by simpa using h⟩
  rcases List.mem_append.1 hm with h1 | h1
  · exact hs s h1
  · simp at h1
    rcases h1 with rfl | rfl | rfl | rfl <;> (show _ ≤ 10; decide)

set_option maxRecDepth 100000 in
set_option maxHeartbeats 2000000 in
theorem voc_any (B g N : Nat) (w : World) (hrd : Rd w B g N) (hB : B ≤ w.heap.size) (hN : N ≤ 20000) :
    Calls Try.prog 50 #[.pointer (some ⟨g, 0, none⟩)] w (VocPost w B g N) := by
  obtain ⟨i0, hi0, hz0, hz1, hz2⟩ := info_parts info9
  have HI := Lib.hid (And.intro hi0 (And.intro hz0 (And.intro hz1 hz2)))
  clear hi0 hz0 hz1 hz2
  have HV := VS.start hrd hB
  clear hrd
  go_enter Try.func50, Try.ntmps50
  go_wp2_with fail
  refine (pick_any B g N 8 _ HV.rd (by omega) (by omega) (by omega)).mono ?_
  rintro e w1 ⟨v, rfl, hv0, hv1, hrd1, hg1⟩
  replace HV := HV.touch hg1 hrd1
  clear hrd1 hg1
  have hv2 : v ≤ 7 := by rcases hv1 with h | h <;> omega
  go_wp2
  go_loopw [4] (fun c wr => ∃ (ss : List ByteArray) (A : Option Addr) (cap j : Nat), c = .int .i64 j ∧ ss.length + j ≤ 9 ∧ VS w B g (N + 1 + 20 * ss.length) (-1) ss A cap wr) (fun c _ => (intOf c).toNat)
  case atStart => exact ⟨[], none, 0, (2 + v).toNat, by go_num, by simp; omega, HV⟩
  case round =>
    clear HV
    obtain ⟨ss, A, cap, j, rfl, hj, HV⟩ := hrel
    have hsz := HV.size
    by_cases hj1 : 0 < j
    · have hj2 : (0 : Int) < (j : Int) := by omega
      have c0 := HV.c0
      go_wp2_with fail
      go_region_law (first
        | (refine step_append_lies _ rfl _ _ 23 rfl (w.heap.size + 2) 9 i0 (.string ByteArray.empty) 1 16 Try.underlying23 HI.out.1 HI.out.2.1 HI.out.2.2.1 HI.out.2.2.2 rfl (by decide) _ _ _ rfl (HV2.alloc _).p ⟨w2.heap.size, 0, none⟩ 1 1 [.string s] rfl rfl (cell_one_new _ _ _) (by intro u hu; simp at hu; subst hu; rfl) (by omega) (by unfold maxLen; omega) (by omega) (by simp; omega) _ rfl ?_; intro g3 cap3 w3 hown3 hgr3 hat3 hlt3; (have HV3 := (HV2.alloc _).setPieces (ss' := ss ++ [s]) (by rw [strs_app] at hown3; simpa using hown3) hgr3 (by intro x hx; rcases List.mem_append.1 hx with h | h; exact HV2.sz x h; simp at h; subst h; omega); have hk3 := (HV2.alloc _).kept hgr3; have hk4 := hk3.1; have hk5 := hk3.2; clear hk3))
        | (go_simp; go_at_call 57; refine (bytes_any B g _ 4 _ HV.drew.rd (by have := HV.drew.size; omega) (by omega) (by omega) (by omega)).mono ?_; rintro e w2 ⟨s, rfl, hs, hrd2, hg2⟩; have HV2 := HV.drew.touch hg2 hrd2; have hsz2 := HV2.size; have hlt2 : w.heap.size + 1 < w2.heap.size := (by omega); have c2 := HV2.c0))
      all_goals
        go_wp2
        go_roundw
        case rel => exact ⟨ss ++ [s], _, _, j - 1, by go_num, by simp; omega, by have H := HV3.mono (N' := N + 1 + 20 * (ss ++ [s]).length) (by simp; omega); simpa using H⟩
        case measure => simp [intOf]; omega
    · have hj2 : ¬ (0 : Int) < (j : Int) := by omega
      have c0 := HV.c0
      have hlt : w.heap.size + 1 < wr.heap.size := by omega
      go_wp2_with (at_builtin; refine wpList_append_own _ rfl _ _ 23 rfl (w.heap.size + 2) 9 i0 (.string ByteArray.empty) 1 16 Try.underlying23 HI.out.1 HI.out.2.1 HI.out.2.2.1 HI.out.2.2.2 rfl (by decide) _ _ _ rfl (HV.alloc _).p ⟨wr.heap.size, 0, none⟩ 4 4 four rfl rfl (new_cells _ four _) ?c2 ?c3 ?c4 ?c5 ?_)
      case c2 => exact four_one
      case c3 => unfold maxLen; omega
      case c4 => omega
      case c5 => first | omega | (simp; omega)
      intro v' w3 hown3 hgr3 _
      have hk3 := (HV.alloc _).kept hgr3
      have hk4 := hk3.1
      have hk5 := hk3.2
      clear hk3
      obtain ⟨A3, cap3, ss3, rfl, hl3, hs3, hown3⟩ := own_four hown3 HV.sz
      have HV3 := (HV.alloc _).setPieces hown3 hgr3 hs3
      rw [← hl3]
      have hlen : ss3.length ≤ 13 := by omega
      have hlen0 : 0 < ss3.length := by omega
      have hM : N + 1 + 20 * ss.length ≤ N + 200 := by omega
      generalize N + 1 + 20 * ss.length = M at HV3 hM
      clear hown3 hgr3 HV c0 hl3 hs3
      go_wp2_with fail
      refine (pick_any B g _ 3 _ HV3.rd (by omega) (by omega) (by omega)).mono ?_
      rintro e w4 ⟨x, rfl, hx0, hx1, hrd4, hg4⟩
      replace HV3 := HV3.touch hg4 hrd4
      clear hg4 hrd4 hk4 hk5
      have hsz4 := HV3.size
      go_upto_if 27 with fail
      go_cut [] (fun wx => ∃ en : Int, (-1 ≤ en ∧ en ≤ 20) ∧ VS w B g (M + 2) en ss3 A3 cap3 wx)
      case first =>
        by_cases hx : 0 < x
        · have c0 := HV3.c0
          go_wp2_with fail
          refine (pick_any B g _ ss3.length _ HV3.rd (by omega) (by omega) (by omega)).mono ?_
          rintro e w5 ⟨en, rfl, hen0, hen1, hrd5, hg5⟩
          replace HV3 := HV3.touch hg5 hrd5
          have c1 := HV3.c1
          have f1 := HV3.f 1
          have HV7 := HV3.setEnd en
          clear HV3 hg5 hrd5 c0
          go_wp2_with fail
          go_meet
          exact ⟨en, by omega, HV7⟩
        · go_wp2_with fail
          go_meet
          exact ⟨-1, by omega, HV3.mono (by omega)⟩
      case rest =>
        clear HV3
        obtain ⟨en, hen, HV7⟩ := hcut
        go_wp2_with fail
        refine (pick_any B g _ 24 _ HV7.rd (by omega) (by omega) (by omega)).mono ?_
        rintro e w8 ⟨y, rfl, hy0, hy1, hrd8, hg8⟩
        have HV8 := HV7.touch hg8 hrd8
        clear HV7 hg8 hrd8
        go_upto_block 2 with fail
        have hsz8 := HV8.size
        go_cut [] (fun wx => ∃ (en : Int) (ss : List ByteArray) (A : Option Addr) (cap : Nat), (-2 ≤ en ∧ en ≤ 50) ∧ ss.length ≤ 50 ∧ VS w B g (N + 900) en ss A cap wx)
        case first =>
          have hyy : y = 0 ∨ y = 1 ∨ y = 2 ∨ y = 3 ∨ 4 ≤ y := by omega
          rcases hyy with rfl | rfl | rfl | rfl | hy
          · have c0 := HV8.c0
            go_wp2
            refine wp_region_held_drew (S := fun X => X.cell? ⟨w.heap.size + 1, 0, none⟩ = some (.slice A3 ss3.length cap3)) (by kernel_rfl) ?_ (fun hHeld => ?_)
            · exact c0
            (first
              | (refine held_take (i := 0) (v := ?_) rfl (by kernel_rfl) (by kernel_rfl) (by kernel_rfl) (fun _ _ _ h => h) (Or.inl ⟨rfl, ?_⟩) (by assumption) ?_; rotate_left; (intro X hSw; (try dsimp only at hSw); (go_simp <;> with_reducible rfl)))
              | (refine held_take (i := 0) (v := undef) rfl (by kernel_rfl) (by kernel_rfl) (by kernel_rfl) (fun _ _ _ h => h) (Or.inr ⟨rfl, rfl⟩) (by assumption) ?_)); simp only [Act.put, List.setIfInBounds_toArray, List.set_cons_zero, List.set_cons_succ]
            (first
              | (refine held_take (i := 1) (v := ?_) rfl (by kernel_rfl) (by kernel_rfl) (by kernel_rfl) (fun _ _ _ h => h) (Or.inl ⟨rfl, ?_⟩) (by assumption) ?_; rotate_left; (intro X hSw; (try dsimp only at hSw); (go_simp <;> with_reducible rfl)))
              | (refine held_take (i := 1) (v := undef) rfl (by kernel_rfl) (by kernel_rfl) (by kernel_rfl) (fun _ _ _ h => h) (Or.inr ⟨rfl, rfl⟩) (by assumption) ?_)); simp only [Act.put, List.setIfInBounds_toArray, List.set_cons_zero, List.set_cons_succ]
            (first
              | (refine held_take (i := 2) (v := ?_) rfl (by kernel_rfl) (by kernel_rfl) (by kernel_rfl) (fun _ _ _ h => h) (Or.inl ⟨rfl, ?_⟩) (by assumption) ?_; rotate_left; (intro X hSw; (try dsimp only at hSw); (go_simp <;> with_reducible rfl)))
              | (refine held_take (i := 2) (v := undef) rfl (by kernel_rfl) (by kernel_rfl) (by kernel_rfl) (fun _ _ _ h => h) (Or.inr ⟨rfl, rfl⟩) (by assumption) ?_)); simp only [Act.put, List.setIfInBounds_toArray, List.set_cons_zero, List.set_cons_succ]
            (first
              | (refine held_take (i := 4) (v := ?_) rfl (by kernel_rfl) (by kernel_rfl) (by kernel_rfl) (fun _ _ _ h => h) (Or.inl ⟨rfl, ?_⟩) (by assumption) ?_; rotate_left; (intro X hSw; (try dsimp only at hSw); (go_simp <;> with_reducible rfl)))
              | (refine held_take (i := 4) (v := undef) rfl (by kernel_rfl) (by kernel_rfl) (by kernel_rfl) (fun _ _ _ h => h) (Or.inr ⟨rfl, rfl⟩) (by assumption) ?_)); simp only [Act.put, List.setIfInBounds_toArray, List.set_cons_zero, List.set_cons_succ]
            refine wpAnyH_ready (rs := [3, 5]) (by kernel_rfl) (by simp) ?_
            refine AllReadyH.cons rfl (fun K hK => ?_) (AllReadyH.cons rfl (fun K hK => ?_) AllReadyH.nil)
            · go_simp
              have HVA := (HV8.alloc (.cells #[.int .i64 (-2), .int .i64 ss3.length] 3)).drew
              have ob := (Own.new w8 3 #[.int .i64 (-2), .int .i64 ss3.length]).drew
              refine hK.out _ _ ?_ (fun hHeld => ?_)
              · exact HVA.c0
              clear hK K
              refine wpAnyH_ready (rs := [5]) (by kernel_rfl) (by simp) ?_
              refine AllReadyH.cons rfl (fun K hK => ?_) AllReadyH.nil
              go_simp
              go_wp2_with fail
              refine (pick_any B g _ 2 _ HVA.rd (by omega) (by omega) (by omega)).mono ?_
              rintro e w9 ⟨z, rfl, hz0, hz1, hrd9, hg9⟩
              have HV9 := HVA.touch hg9 hrd9
              have ob9 := own_touch ob hg9 (by have := HV8.g_lt; omega)
              go_wp2_with fail
              refine hK.out _ _ ?_ (fun hHeld => ?_)
              · exact HV9.c0
              clear hK K HVA ob hg9 hrd9 HV8 c0
              have hzz : z = 0 ∨ z = 1 := by omega
              have d0 := ob9.cell_ (i := 0) (by simp)
              have d1 := ob9.cell_ (i := 1) (by simp)
              simp at d0 d1
              have k0 := HV9.c0
              have k1 := HV9.c1
              have k2 := HV9.f 1
              rcases hzz with rfl | rfl
              all_goals
                (first
                  | (refine held_take (i := 6) (v := ?_) rfl (by kernel_rfl) (by kernel_rfl) (by kernel_rfl) (fun _ _ _ h => h) (Or.inl ⟨rfl, ?_⟩) (by assumption) ?_; rotate_left; (intro X hSw; (try dsimp only at hSw); (go_simp <;> with_reducible rfl)))
                  | (refine held_take (i := 6) (v := undef) rfl (by kernel_rfl) (by kernel_rfl) (by kernel_rfl) (fun _ _ _ h => h) (Or.inr ⟨rfl, rfl⟩) (by assumption) ?_)); simp only [Act.put, List.setIfInBounds_toArray, List.set_cons_zero, List.set_cons_succ]
                refine wpAnyH_ready (rs := [7]) (by kernel_rfl) (by simp) ?_
                refine AllReadyH.cons rfl (fun K hK => ?_) AllReadyH.nil
                go_simp
                refine hK.out _ _ ?_ (fun hHeld => ?_)
                · exact k0
                clear hK K
                (first
                  | (refine held_take (i := 8) (v := ?_) rfl (by kernel_rfl) (by kernel_rfl) (by kernel_rfl) (fun _ _ _ h => h) (Or.inl ⟨rfl, ?_⟩) (by assumption) ?_; rotate_left; (intro X hSw; (try dsimp only at hSw); (go_simp <;> with_reducible rfl)))
                  | (refine held_take (i := 8) (v := undef) rfl (by kernel_rfl) (by kernel_rfl) (by kernel_rfl) (fun _ _ _ h => h) (Or.inr ⟨rfl, rfl⟩) (by assumption) ?_)); simp only [Act.put, List.setIfInBounds_toArray, List.set_cons_zero, List.set_cons_succ]
                refine wpAnyH_ready (rs := [9]) (by kernel_rfl) (by simp) ?_
                refine AllReadyH.cons rfl (fun K hK => ?_) AllReadyH.nil
                go_simp
                refine hK.out _ _ ?_ (fun hHeld => ?_)
                · exact (HV9.setEnd _).c0
                clear hK K
                refine wpAnyH_done (by kernel_rfl) ?_ _
                go_wp2_with fail
                go_meet
                exact ⟨_, ss3, A3, cap3, by omega, by omega, (HV9.setEnd _).mono (by omega)⟩
            · go_simp
              go_wp2_with fail
              refine (pick_any B g _ 2 _ HV8.drew.rd (by omega) (by omega) (by omega)).mono ?_
              rintro e w9 ⟨z, rfl, hz0, hz1, hrd9, hg9⟩
              have HVA := HV8.drew.touch hg9 hrd9
              go_wp2_with fail
              refine hK.out _ _ ?_ (fun hHeld => ?_)
              · exact HVA.c0
              clear hK K
              refine wpAnyH_ready (rs := [3]) (by kernel_rfl) (by simp) ?_
              refine AllReadyH.cons rfl (fun K hK => ?_) AllReadyH.nil
              go_simp
              have HV9 := HVA.alloc (.cells #[.int .i64 (-2), .int .i64 ss3.length] 3)
              have ob9 := Own.new w9 3 #[.int .i64 (-2), .int .i64 ss3.length]
              refine hK.out _ _ ?_ (fun hHeld => ?_)
              · exact HV9.c0
              clear hK K HVA hg9 hrd9 HV8 c0
              have hzz : z = 0 ∨ z = 1 := by omega
              have d0 := ob9.cell_ (i := 0) (by simp)
              have d1 := ob9.cell_ (i := 1) (by simp)
              simp at d0 d1
              have k0 := HV9.c0
              have k1 := HV9.c1
              have k2 := HV9.f 1
              rcases hzz with rfl | rfl
              all_goals
                (first
                  | (refine held_take (i := 6) (v := ?_) rfl (by kernel_rfl) (by kernel_rfl) (by kernel_rfl) (fun _ _ _ h => h) (Or.inl ⟨rfl, ?_⟩) (by assumption) ?_; rotate_left; (intro X hSw; (try dsimp only at hSw); (go_simp <;> with_reducible rfl)))
                  | (refine held_take (i := 6) (v := undef) rfl (by kernel_rfl) (by kernel_rfl) (by kernel_rfl) (fun _ _ _ h => h) (Or.inr ⟨rfl, rfl⟩) (by assumption) ?_)); simp only [Act.put, List.setIfInBounds_toArray, List.set_cons_zero, List.set_cons_succ]
                refine wpAnyH_ready (rs := [7]) (by kernel_rfl) (by simp) ?_
                refine AllReadyH.cons rfl (fun K hK => ?_) AllReadyH.nil
                go_simp
                refine hK.out _ _ ?_ (fun hHeld => ?_)
                · exact k0
                clear hK K
                (first
                  | (refine held_take (i := 8) (v := ?_) rfl (by kernel_rfl) (by kernel_rfl) (by kernel_rfl) (fun _ _ _ h => h) (Or.inl ⟨rfl, ?_⟩) (by assumption) ?_; rotate_left; (intro X hSw; (try dsimp only at hSw); (go_simp <;> with_reducible rfl)))
                  | (refine held_take (i := 8) (v := undef) rfl (by kernel_rfl) (by kernel_rfl) (by kernel_rfl) (fun _ _ _ h => h) (Or.inr ⟨rfl, rfl⟩) (by assumption) ?_)); simp only [Act.put, List.setIfInBounds_toArray, List.set_cons_zero, List.set_cons_succ]
                refine wpAnyH_ready (rs := [9]) (by kernel_rfl) (by simp) ?_
                refine AllReadyH.cons rfl (fun K hK => ?_) AllReadyH.nil
                go_simp
                refine hK.out _ _ ?_ (fun hHeld => ?_)
                · exact (HV9.setEnd _).c0
                clear hK K
                refine wpAnyH_done (by kernel_rfl) ?_ _
                go_wp2_with fail
                go_meet
                exact ⟨_, ss3, A3, cap3, by omega, by omega, (HV9.setEnd _).mono (by omega)⟩
          · obtain ⟨G, rfl⟩ := HV8.first hlen0
            have c0 := HV8.c0
            have hl' : (0 : Int) < (ss3.length : Int) := by omega
            go_wp2
            go_region_held3 (fun X => X.cell? ⟨w.heap.size + 1, 0, none⟩ = some (.slice (some ⟨G, 0, none⟩) ss3.length cap3))
              (first | exact (by simpa using (HV9.setFirst t10 (by omega)).c0) | exact HV9.c0 | exact c0)
              (first | (go_at_call 51; refine (pick_any B g _ 2 _ HV8.drew.rd (by omega) (by omega) (by omega)).mono ?_; rintro e w9 ⟨z, rfl, hz0, hz1, hrd9, hg9⟩; have HV9 := HV8.drew.touch hg9 hrd9; have hwr : IntKind.i64.wrap (6 + z) = 6 + z := (IntWalk.i64_in _ (by omega)); obtain ⟨⟨v9, hv9⟩, hf9, hG9⟩ := HV9.f_cell hlen0)
                     | (go_at_call 58; refine (many_any ⟨#[97]⟩ (6 + z) _ (by omega) (by omega) (by show (1 : Nat) ≤ 100; omega)).mono ?_; rintro e w10 ⟨t10, rfl, ht10, rfl⟩; have ht : t10.size ≤ 10 := (by rw [ht10]; show 1 * _ ≤ 10; omega)))
            go_wp2_with fail
            go_meet
            exact ⟨en, ss3.set 0 t10, _, cap3, by omega, by simp; omega, by simpa using (HV9.setFirst t10 (by omega)).mono (by omega)⟩
          · go_wp2
            go_loopg [] 60 (fun k X => ∃ (ss : List ByteArray) (A : Option Addr) (cap : Nat), 60 - ss.length ≤ k ∧ ss.length ≤ 42 ∧ VS w B g (N + 300 + ss.length) en ss A cap X)
            case atStart => exact ⟨ss3, A3, cap3, by omega, by omega, HV8.mono (by omega)⟩
            case round =>
              clear HV8
              obtain ⟨ss4, A4, cap4, hk4, hl4, HV⟩ := hrel
              have c0 := HV.c0
              have hsz9 := HV.size
              go_wp2
              go_region_held3 (fun X => X.cell? ⟨w.heap.size + 1, 0, none⟩ = some (.slice A4 ss4.length cap4))
                (first | exact HV9.c0 | exact c0)
                (first | (go_at_call 51; refine (pick_any B g _ 2 _ HV.drew.rd (by omega) (by omega) (by omega)).mono ?_; rintro e w9 ⟨z, rfl, hz0, hz1, hrd9, hg9⟩; have HV9 := HV.drew.touch hg9 hrd9; have hwr : IntKind.i64.wrap (40 + z) = 40 + z := (IntWalk.i64_in _ (by omega))))
              clear HV hg9 hrd9 c0
              have c0 := HV9.c0
              have f0 := HV9.f 0
              have hlt9 : w.heap.size + 1 < w9.heap.size := by have := HV9.size; omega
              by_cases hz : (ss4.length : Int) < 40 + z
              · go_wp2_with (at_builtin; refine wpList_append_own _ rfl _ _ 23 rfl (w.heap.size + 2) 9 i0 (.string ByteArray.empty) 1 16 Try.underlying23 HI.out.1 HI.out.2.1 HI.out.2.2.1 HI.out.2.2.2 rfl (by decide) _ _ _ rfl (HV9.alloc _).p ⟨w9.heap.size, 0, none⟩ 1 1 [.string ⟨#[99]⟩] rfl rfl (cell_one_new _ _ _) ?e2 ?e3 ?e4 ?e5 ?_)
                case e2 => first | rfl | (intro u hu; simp at hu; subst hu; rfl)
                case e3 => unfold maxLen; omega
                case e4 => omega
                case e5 => first | omega | (simp; omega)
                intro v' w10 hown10 hgr10 _
                have hk3 := (HV9.alloc _).kept hgr10
                have hk4 := hk3.1
                have hk5 := hk3.2
                clear hk3
                rw [strs_app] at hown10
                obtain ⟨A5, cap5, rfl⟩ := own_form hown10
                have HV10 := (HV9.alloc _).setPieces (ss' := ss4 ++ [⟨#[99]⟩]) (A' := A5) (cap' := cap5) (by simpa using hown10) hgr10 (by
                  intro x hx
                  rcases List.mem_append.1 hx with h | h
                  · exact HV9.sz x h
                  · simp at h; subst h; show 1 ≤ 10; omega)
                clear hown10 hgr10 HV9
                go_wp2
                go_roundg (60 - (ss4.length + 1))
                case measure => omega
                case rel => exact ⟨ss4 ++ [⟨#[99]⟩], A5, cap5, by simp, by simp; omega, by simpa using HV10.mono (N' := N + 300 + (ss4 ++ [(⟨#[99]⟩ : ByteArray)]).length) (by simp; omega)⟩
              · go_wp2_with fail
                go_meet
                exact ⟨en, ss4, A4, cap4, by omega, by omega, HV9.mono (by omega)⟩
          · have c0 := HV8.c0
            have f0 := HV8.f 0
            go_wp2_with fail
            go_meet
            exact ⟨en, [], none, 0, by omega, by simp, HV8.drop.mono (by omega)⟩
          · have y0 : (y == 0) = false := by rw [beq_eq_false_iff_ne]; omega
            have y1 : (y == 1) = false := by rw [beq_eq_false_iff_ne]; omega
            have y2 : (y == 2) = false := by rw [beq_eq_false_iff_ne]; omega
            have y3 : (y == 3) = false := by rw [beq_eq_false_iff_ne]; omega
            go_wp2_with fail
            go_meet
            exact ⟨en, ss3, A3, cap3, by omega, by omega, HV8.mono (by omega)⟩
        case rest =>
          clear HV8
          obtain ⟨en', ss', A', cap', he', hl', HV9⟩ := hcut
          have c0 := HV9.c0
          have c1 := HV9.c1
          have r0 := HV9.r0
          have r1 := HV9.r1
          have fr0 := HV9.fr' 0
          have fr1 := HV9.fr' 1
          go_wp2
          have q := HV9.res (.slice A' ss'.length cap') (.int .i64 en')
          exact bodyPost_ret (v := .agg #[.slice A' ss'.length cap', .int .i64 en']) (by simp [results, Try.results50, go_sem, q.1, q.2]) rfl (HV9.done (by omega) hl' he')

end Go.Proofs.Ytcanhkngikeeiaa
