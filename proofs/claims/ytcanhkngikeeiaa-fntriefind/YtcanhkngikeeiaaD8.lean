/- What DrawVocText does: a vocabulary and tokens are drawn. -/
import Derived.Test.YtcanhkngikeeiaaD7
import Derived.Test.YtcanhkngikeeiaaL3
namespace Go.Proofs.Ytcanhkngikeeiaa
open Go.RowKit
set_option linter.unusedVariables false

/-- While tokens are drawn behind a vocabulary. -/
structure DT (w0 : World) (B g N V : Nat) (en : Int) (ss : List ByteArray) (A : Option Addr) (cap : Nat) (ids : List Int) (I : Option Addr) (ic : Nat) (w : World) : Prop where
  d : DS w0 B g N V en ss A cap w
  i : w.ownsRow (V + 1) 3 1 (.slice I ids.length ic) ids.length (ints ids)
  q : ∀ k, (Value.slice A ss.length cap).ownBlock = some k → k < V
  s : ∃ G, I = some ⟨G, 0, none⟩

section
variable {w0 w w' : World} {B g N N' V : Nat} {en : Int} {ss : List ByteArray} {A : Option Addr} {cap : Nat} {ids ids' : List Int} {I I' : Option Addr} {ic ic' : Nat}
theorem DT.touch (h : DT w0 B g N V en ss A cap ids I ic w) (hg : w.grownBy w' (some g)) (hr : Rd w' B g N') : DT w0 B g N' V en ss A cap ids I ic w' :=
  ⟨h.d.touch hg hr, own_old h.i hg (by have := h.d.gB; have := h.d.bv; omega), h.q, h.s⟩
theorem DT.drew (h : DT w0 B g N V en ss A cap ids I ic w) : DT w0 B g N V en ss A cap ids I ic w.drew := ⟨h.d.drew, h.i, h.q, h.s⟩
theorem DT.alloc (h : DT w0 B g N V en ss A cap ids I ic w) (o : Obj) : DT w0 B g N V en ss A cap ids I ic (w.alloc o) := ⟨h.d.alloc o, h.i.alloc o, h.q, h.s⟩
theorem DT.mono (h : DT w0 B g N V en ss A cap ids I ic w) (hN : N ≤ N') : DT w0 B g N' V en ss A cap ids I ic w := ⟨h.d.mono hN, h.i, h.q, h.s⟩
theorem DT.size (h : DT w0 B g N V en ss A cap ids I ic w) : V + 1 ≤ w.heap.size := h.d.size
theorem DT.put (h : DT w0 B g N V en ss A cap ids I ic w) (hg : w.grownBy w' (Value.slice I ids.length ic).ownBlock) (hi : w'.ownsRow (V + 1) 3 1 (.slice I' ids'.length ic') ids'.length (ints ids')) (hs : ∃ G, I' = some ⟨G, 0, none⟩) : DT w0 B g N V en ss A cap ids' I' ic' w' := by
  refine ⟨h.d.other hg (fun k hk => by have := (h.i.lt k hk).1; omega) ?_, hi, h.q, hs⟩
  rcases hv : (Value.slice A ss.length cap).ownBlock with _ | k
  · exact .inl rfl
  · right; intro e
    have h1 := h.q k hv
    have h2 := (h.i.lt k e.symm).1
    omega
theorem DT.fresh (h : DT w0 B g N V en ss A cap ids I ic w) (hg : w.grownBy w' none) (hi : w'.ownsRow (V + 1) 3 1 (.slice I' ids'.length ic') ids'.length (ints ids')) (hs : ∃ G, I' = some ⟨G, 0, none⟩) : DT w0 B g N V en ss A cap ids' I' ic' w' := by
  refine ⟨h.d.other hg (fun k hk => by cases hk) ?_, hi, h.q, hs⟩
  rcases hv : (Value.slice A ss.length cap).ownBlock with _ | k
  · exact .inl rfl
  · right; intro e; cases e
end

theorem own_int {w : World} {base : Nat} {v : Value} {zs : List Int} {x : Int} (h : w.ownsRow base 3 1 v (zs.length + 1) (ints zs ++ [.int .i64 x])) :
    ∃ A cap, v = .slice A (zs.length + 1) cap ∧ w.ownsRow base 3 1 (.slice A (zs ++ [x]).length cap) (zs ++ [x]).length (ints (zs ++ [x])) ∧ ∃ G, A = some ⟨G, 0, none⟩ := by
  rw [ints_one] at h
  obtain ⟨A, cap, rfl⟩ := own_form h
  refine ⟨A, cap, rfl, by simpa using h, ?_⟩
  rcases h.2 with ⟨h1, h2⟩ | ⟨g, cap', cur, h1, _⟩
  · omega
  · injection h1 with h3; exact ⟨g, h3⟩
theorem own_cap {w : World} {base : Nat} {e : TypeId} {s n cap m : Nat} {A : Option Addr} {xs : List Value} (h : w.ownsRow base e s (.slice A n cap) m xs) : n ≤ cap := by
  rcases h.2 with ⟨h1, h2⟩ | ⟨g, cap', cur, h1, _, _, h2, _⟩
  · injection h1 with _ h3 h4; omega
  · injection h1 with _ h3 h4; omega

/-- A vocabulary and tokens are drawn. -/
def DrawTextPost (w : World) (e : Ending) (w' : World) : Prop :=
  ∃ (ss : List ByteArray) (en : Int) (A : Option Addr) (cap : Nat) (ids : List Int) (I : Option Addr) (ic : Nat), e = .returned (.tuple #[.agg #[.slice A ss.length cap, .int .i64 en], .slice I ids.length ic]) ∧ ss.length ≤ 50 ∧ (∀ s ∈ ss, s.size ≤ 10) ∧ -2 ≤ en ∧ en ≤ 50 ∧ ids.length ≤ 61 ∧ (∃ G, I = some ⟨G, 0, none⟩) ∧
    w'.ownsRow w.heap.size 9 1 (.slice A ss.length cap) ss.length (strs ss) ∧ w'.ownsRow w.heap.size 3 1 (.slice I ids.length ic) ids.length (ints ids) ∧ Below w.heap.size w w'

set_option maxRecDepth 100000 in
set_option maxHeartbeats 2000000 in
theorem drawText_any (C : Option Addr) (ccap : Nat) (zs : List Int) (w : World) (hrow : Row w C (byts zs)) (hz : zs.length ≤ 1048576) (hcap : zs.length ≤ ccap) (hzs : ∀ z ∈ zs, 0 ≤ z ∧ z ≤ 255) :
    Calls Try.prog 19 #[.slice C zs.length ccap] w (DrawTextPost w) := by
  obtain ⟨i0, hi0, hz0, hz1, hz2⟩ := info_parts info3
  have HI := Lib.hid (And.intro hi0 (And.intro hz0 (And.intro hz1 hz2)))
  clear hi0 hz0 hz1 hz2
  have HR := Lib.hid hrow
  have HZ := Lib.hid hzs
  clear hrow hzs
  go_enter Try.func19, Try.ntmps19
  go_wp2_with fail
  refine (open_any C ccap zs _ (HR.out.alloc _) hz hcap HZ.out).mono ?_
  rintro e w1 ⟨g, rfl, hg, hrd1, hb1⟩
  have hr1 := (Own.new w 25 #[.slice none 0 0, .int .i64 0]).keep hb1
  have hfr1 : Below w.heap.size w w1 := (below_box _).trans (hb1.mono (by simp))
  simp at hg
  have hg1 := hrd1.lt
  clear hb1
  go_wp2_with fail
  refine (voc_any (g + 1) g 0 _ hrd1 (by omega) (by omega)).mono ?_
  rintro e w2 ⟨ss, en, A, cap, rfl, hl, hs, he0, he1, hp, hrd2, hg2⟩
  have HD := DS.start (en := en) hr1 hfr1 (show g + 1 ≤ w1.heap.size by omega) (by omega) (by omega) hp hrd2 hg2
  have HS := Lib.hid hs
  have HT := DT.mk (ids := []) (I := some ⟨w2.heap.size + 1, 0, none⟩) (ic := 0) (HD.alloc (.cells #[] 3)) (by simpa [ints] using World.ownsRow_lit (base := w2.heap.size + 1) (e := 3) (size := 1) (w2.alloc (.cells #[.slice A ss.length cap, .int .i64 en] 25)) #[] 0 (by simp) (by simp [maxLen]) rfl) (fun k hk => (hp.lt k hk).2) ⟨_, rfl⟩
  clear hr1 hfr1 hp hrd2 hg2 hs hrd1 HD
  have hlw : IntKind.i64.wrap ((ss.length : Int) + 1) = (ss.length : Int) + 1 := IntWalk.i64_in _ (by omega)
  go_wp2_with fail
  refine (pick_any (g + 1) g _ 9 _ HT.d.rd (by omega) (by omega) (by omega)).mono ?_
  rintro e w3 ⟨x, rfl, hx0, hx1, hrd3, hg3⟩
  replace HT := HT.touch hg3 hrd3
  clear hg3 hrd3
  have hx2 : x ≤ 8 := by omega
  generalize w2.heap.size = V at HT ⊢
  go_wp2
  go_loopw [6, 7] (fun t n wr => ∃ (ids : List Int) (I : Option Addr) (ic : Nat) (j : Nat), t = .slice I ids.length ic ∧ n = .int .i64 j ∧ j ≤ 8 ∧ ids.length + j ≤ 8 ∧ DT w (g + 1) g (2000 - 20 * j) V en ss A cap ids I ic wr) (fun _ n _ => (intOf n).toNat)
  case atStart => exact ⟨[], _, _, x.toNat, rfl, by go_num, by omega, by simp; omega, HT.mono (by omega)⟩
  case round =>
    clear HT
    obtain ⟨ids, I, ic, j, rfl, rfl, hj7, hj, HT⟩ := hrel
    have hszT := HT.size
    by_cases hj1 : 0 < j
    · have hj2 : (0 : Int) < (j : Int) := by omega
      have c0 := HT.d.c0
      go_wp2_with fail
      refine (pick_any (g + 1) g _ _ _ HT.d.rd (by omega) (by omega) (by omega)).mono ?_
      rintro e w4 ⟨y, rfl, hy0, hy1, hrd4, hg4⟩
      replace HT := HT.touch hg4 hrd4
      have hszT := HT.size
      clear hg4 hrd4 c0
      go_wp2_with (at_builtin; refine wpList_append_own _ rfl _ _ 26 rfl (V + 1) 3 i0 (.int .i64 0) 1 8 Try.underlying26 HI.out.1 HI.out.2.1 HI.out.2.2.1 HI.out.2.2.2 rfl (by decide) _ _ _ rfl (HT.alloc _).i ⟨w4.heap.size, 0, none⟩ 1 1 [.int .i64 y] rfl rfl (cell_one_new _ _ _) ?c2 ?c3 ?c4 ?c5 ?_)
      case c2 => first | rfl | (intro u hu; simp at hu; subst hu; rfl)
      case c3 => unfold maxLen; omega
      case c4 => omega
      case c5 => first | omega | (simp; omega)
      intro v' w5 hown' hgrow _
      obtain ⟨I5, ic5, rfl, hi5, hG5⟩ := own_int hown'
      have HT5 := (HT.alloc _).put hgrow hi5 hG5
      clear HT hgrow hown' hi5
      go_wp2
      go_roundw
      case rel => exact ⟨ids ++ [y], I5, ic5, j - 1, by simp, by go_num, by omega, by simp; omega, HT5.mono (by omega)⟩
      case measure => simp [intOf]; omega
    · have hj2 : ¬ (0 : Int) < (j : Int) := by omega
      go_wp2_with fail
      refine (pick_any (g + 1) g _ 16 _ HT.d.rd (by omega) (by omega) (by omega)).mono ?_
      rintro e w4 ⟨y, rfl, hy0, hy1, hrd4, hg4⟩
      replace HT := HT.touch hg4 hrd4
      replace hszT := HT.size
      clear hg4 hrd4
      go_upto_block 2 with fail
      go_cut [6] (fun t wx => ∃ (ids : List Int) (I : Option Addr) (ic : Nat), t = .slice I ids.length ic ∧ ids.length ≤ 61 ∧ DT w (g + 1) g 3000 V en ss A cap ids I ic wx)
      case first =>
        have hyy : y = 0 ∨ y = 1 ∨ 2 ≤ y := by omega
        rcases hyy with rfl | rfl | hy
        · have c0 := HT.d.c0
          go_wp2
          refine wp_region_held_drew (S := fun X => X.cell? ⟨V, 0, none⟩ = some (.slice A ss.length cap)) (by kernel_rfl) ?_ (fun hHeld => ?_)
          · exact c0
          (first
            | (refine held_take (i := 0) (v := ?_) rfl (by kernel_rfl) (by kernel_rfl) (by kernel_rfl) (fun _ _ _ h => h) (Or.inl ⟨rfl, ?_⟩) (by assumption) ?_; rotate_left; (intro X hSw; (try dsimp only at hSw); (go_simp <;> with_reducible rfl)))
            | (refine held_take (i := 0) (v := undef) rfl (by kernel_rfl) (by kernel_rfl) (by kernel_rfl) (fun _ _ _ h => h) (Or.inr ⟨rfl, rfl⟩) (by assumption) ?_)); simp only [Act.put, List.setIfInBounds_toArray, List.set_cons_zero, List.set_cons_succ]
          (first
            | (refine held_take (i := 1) (v := ?_) rfl (by kernel_rfl) (by kernel_rfl) (by kernel_rfl) (fun _ _ _ h => h) (Or.inl ⟨rfl, ?_⟩) (by assumption) ?_; rotate_left; (intro X hSw; (try dsimp only at hSw); (go_simp <;> with_reducible rfl)))
            | (refine held_take (i := 1) (v := undef) rfl (by kernel_rfl) (by kernel_rfl) (by kernel_rfl) (fun _ _ _ h => h) (Or.inr ⟨rfl, rfl⟩) (by assumption) ?_)); simp only [Act.put, List.setIfInBounds_toArray, List.set_cons_zero, List.set_cons_succ]
          (first
            | (refine held_take (i := 2) (v := ?_) rfl (by kernel_rfl) (by kernel_rfl) (by kernel_rfl) (fun _ _ _ h => h) (Or.inl ⟨rfl, ?_⟩) (by assumption) ?_; rotate_left; (intro X hSw; (try dsimp only at hSw); (go_simp <;> with_reducible rfl)))
            | (refine held_take (i := 2) (v := undef) rfl (by kernel_rfl) (by kernel_rfl) (by kernel_rfl) (fun _ _ _ h => h) (Or.inr ⟨rfl, rfl⟩) (by assumption) ?_)); simp only [Act.put, List.setIfInBounds_toArray, List.set_cons_zero, List.set_cons_succ]
          (first
            | (refine held_take (i := 3) (v := ?_) rfl (by kernel_rfl) (by kernel_rfl) (by kernel_rfl) (fun _ _ _ h => h) (Or.inl ⟨rfl, ?_⟩) (by assumption) ?_; rotate_left; (intro X hSw; (try dsimp only at hSw); (go_simp <;> with_reducible rfl)))
            | (refine held_take (i := 3) (v := undef) rfl (by kernel_rfl) (by kernel_rfl) (by kernel_rfl) (fun _ _ _ h => h) (Or.inr ⟨rfl, rfl⟩) (by assumption) ?_)); simp only [Act.put, List.setIfInBounds_toArray, List.set_cons_zero, List.set_cons_succ]
          (first
            | (refine held_take (i := 5) (v := ?_) rfl (by kernel_rfl) (by kernel_rfl) (by kernel_rfl) (fun _ _ _ h => h) (Or.inl ⟨rfl, ?_⟩) (by assumption) ?_; rotate_left; (intro X hSw; (try dsimp only at hSw); (go_simp <;> with_reducible rfl)))
            | (refine held_take (i := 5) (v := undef) rfl (by kernel_rfl) (by kernel_rfl) (by kernel_rfl) (fun _ _ _ h => h) (Or.inr ⟨rfl, rfl⟩) (by assumption) ?_)); simp only [Act.put, List.setIfInBounds_toArray, List.set_cons_zero, List.set_cons_succ]
          refine wpAnyH_ready (rs := [4, 6]) (by kernel_rfl) (by simp) ?_
          refine AllReadyH.cons rfl (fun K hK => ?_) (AllReadyH.cons rfl (fun K hK => ?_) AllReadyH.nil)
          · go_simp
            have HTA := (HT.alloc (.cells #[.int .i64 (-1), .int .i64 ss.length] 3)).drew
            have ob := (Own.new w4 3 #[.int .i64 (-1), .int .i64 ss.length]).drew
            refine hK.out _ _ ?_ (fun hHeld => ?_)
            · exact HTA.d.c0
            clear hK K
            refine wpAnyH_ready (rs := [6]) (by kernel_rfl) (by simp) ?_
            refine AllReadyH.cons rfl (fun K hK => ?_) AllReadyH.nil
            go_simp
            go_wp2_with fail
            refine (pick_any (g + 1) g _ 2 _ HTA.d.rd (by omega) (by omega) (by omega)).mono ?_
            rintro e w9 ⟨z, rfl, hz0, hz1, hrd9, hg9⟩
            have HT9 := HTA.touch hg9 hrd9
            have ob9 := own_touch ob hg9 (by have := HT.d.gB; have := HT.d.bv; omega)
            go_wp2_with fail
            refine hK.out _ _ ?_ (fun hHeld => ?_)
            · exact HT9.d.c0
            clear hK K HTA ob hg9 hrd9 HT c0
            have hzz : z = 0 ∨ z = 1 := by omega
            have d0 := ob9.cell_ (i := 0) (by simp)
            have d1 := ob9.cell_ (i := 1) (by simp)
            simp at d0 d1
            have k0 := HT9.d.c0
            rcases hzz with rfl | rfl
            all_goals
              (first
                | (refine held_take (i := 7) (v := ?_) rfl (by kernel_rfl) (by kernel_rfl) (by kernel_rfl) (fun _ _ _ h => h) (Or.inl ⟨rfl, ?_⟩) (by assumption) ?_; rotate_left; (intro X hSw; (try dsimp only at hSw); (go_simp <;> with_reducible rfl)))
                | (refine held_take (i := 7) (v := undef) rfl (by kernel_rfl) (by kernel_rfl) (by kernel_rfl) (fun _ _ _ h => h) (Or.inr ⟨rfl, rfl⟩) (by assumption) ?_)); simp only [Act.put, List.setIfInBounds_toArray, List.set_cons_zero, List.set_cons_succ]
              refine wpAnyH_ready (rs := [8]) (by kernel_rfl) (by simp) ?_
              refine AllReadyH.cons rfl (fun K hK => ?_) AllReadyH.nil
              go_simp
              refine hK.out _ _ ?_ (fun hHeld => ?_)
              · exact k0
              clear hK K
              refine wpAnyH_ready (rs := [9]) (by kernel_rfl) (by simp) ?_
              refine AllReadyH.cons rfl (fun K hK => ?_) AllReadyH.nil
              go_simp
              refine hK.out _ _ ?_ (fun hHeld => ?_)
              · exact (HT9.alloc _).d.c0
              clear hK K
              refine wpAnyH_ready (rs := [10]) (by kernel_rfl) (by simp) ?_
              refine AllReadyH.cons rfl (fun K hK => ?_) AllReadyH.nil
              refine step_append_lies _ rfl _ _ 26 rfl (V + 1) 3 i0 (.int .i64 0) 1 8 Try.underlying26 HI.out.1 HI.out.2.1 HI.out.2.2.1 HI.out.2.2.2 rfl (by decide) _ _ _ rfl (HT9.alloc _).i ⟨_, 0, none⟩ 1 1 [_] rfl rfl (cell_one_new _ _ _) ?f2 ?f6 ?f3 ?f4 ?f5 _ rfl ?_
              case f2 => first | rfl | (intro u hu; simp at hu; subst hu; rfl)
              case f6 => omega
              case f3 => unfold maxLen; omega
              case f4 => omega
              case f5 => have := HT9.size; first | omega | (simp; omega)
              intro g10 ic5 w10 hown' hgrow _ _
              rw [ints_one] at hown'
              have HT5 := (HT9.alloc _).put (I' := some ⟨g10, 0, none⟩) (ids' := ids ++ [_]) hgrow (by simpa using hown') ⟨_, rfl⟩
              clear HT9 hgrow hown'
              go_simp
              refine hK.out _ _ ?_ (fun hHeld => ?_)
              · exact HT5.d.c0
              clear hK K
              (first
                | (refine held_take (i := 11) (v := ?_) rfl (by kernel_rfl) (by kernel_rfl) (by kernel_rfl) (fun _ _ _ h => h) (Or.inl ⟨rfl, ?_⟩) (by assumption) ?_; rotate_left; (intro X hSw; (try dsimp only at hSw); (go_simp <;> with_reducible rfl)))
                | (refine held_take (i := 11) (v := undef) rfl (by kernel_rfl) (by kernel_rfl) (by kernel_rfl) (fun _ _ _ h => h) (Or.inr ⟨rfl, rfl⟩) (by assumption) ?_)); simp only [Act.put, List.setIfInBounds_toArray, List.set_cons_zero, List.set_cons_succ]
              refine wpAnyH_done (by kernel_rfl) ?_ _
              go_wp2_with fail
              go_meet
              exact ⟨_, _, ic5, by simp, by simp; omega, HT5.mono (by omega)⟩
          · go_simp
            go_wp2_with fail
            refine (pick_any (g + 1) g _ 2 _ HT.drew.d.rd (by omega) (by omega) (by omega)).mono ?_
            rintro e w9 ⟨z, rfl, hz0, hz1, hrd9, hg9⟩
            have HTA := HT.drew.touch hg9 hrd9
            go_wp2_with fail
            refine hK.out _ _ ?_ (fun hHeld => ?_)
            · exact HTA.d.c0
            clear hK K
            refine wpAnyH_ready (rs := [4]) (by kernel_rfl) (by simp) ?_
            refine AllReadyH.cons rfl (fun K hK => ?_) AllReadyH.nil
            go_simp
            have HT9 := HTA.alloc (.cells #[.int .i64 (-1), .int .i64 ss.length] 3)
            have ob9 := Own.new w9 3 #[.int .i64 (-1), .int .i64 ss.length]
            generalize w9.alloc (.cells #[.int .i64 (-1), .int .i64 ss.length] 3) = w9a at HT9 ob9 ⊢
            refine hK.out _ _ ?_ (fun hHeld => ?_)
            · exact HT9.d.c0
            clear hK K HTA hg9 hrd9 HT c0
            have hzz : z = 0 ∨ z = 1 := by omega
            have d0 := ob9.cell_ (i := 0) (by simp)
            have d1 := ob9.cell_ (i := 1) (by simp)
            simp at d0 d1
            have k0 := HT9.d.c0
            rcases hzz with rfl | rfl
            all_goals
              (first
                | (refine held_take (i := 7) (v := ?_) rfl (by kernel_rfl) (by kernel_rfl) (by kernel_rfl) (fun _ _ _ h => h) (Or.inl ⟨rfl, ?_⟩) (by assumption) ?_; rotate_left; (intro X hSw; (try dsimp only at hSw); (go_simp <;> with_reducible rfl)))
                | (refine held_take (i := 7) (v := undef) rfl (by kernel_rfl) (by kernel_rfl) (by kernel_rfl) (fun _ _ _ h => h) (Or.inr ⟨rfl, rfl⟩) (by assumption) ?_)); simp only [Act.put, List.setIfInBounds_toArray, List.set_cons_zero, List.set_cons_succ]
              refine wpAnyH_ready (rs := [8]) (by kernel_rfl) (by simp) ?_
              refine AllReadyH.cons rfl (fun K hK => ?_) AllReadyH.nil
              go_simp
              refine hK.out _ _ ?_ (fun hHeld => ?_)
              · exact k0
              clear hK K
              refine wpAnyH_ready (rs := [9]) (by kernel_rfl) (by simp) ?_
              refine AllReadyH.cons rfl (fun K hK => ?_) AllReadyH.nil
              go_simp
              refine hK.out _ _ ?_ (fun hHeld => ?_)
              · exact (HT9.alloc _).d.c0
              clear hK K
              refine wpAnyH_ready (rs := [10]) (by kernel_rfl) (by simp) ?_
              refine AllReadyH.cons rfl (fun K hK => ?_) AllReadyH.nil
              refine step_append_lies _ rfl _ _ 26 rfl (V + 1) 3 i0 (.int .i64 0) 1 8 Try.underlying26 HI.out.1 HI.out.2.1 HI.out.2.2.1 HI.out.2.2.2 rfl (by decide) _ _ _ rfl (HT9.alloc _).i ⟨_, 0, none⟩ 1 1 [_] rfl rfl (cell_one_new _ _ _) ?f2 ?f6 ?f3 ?f4 ?f5 _ rfl ?_
              case f2 => first | rfl | (intro u hu; simp at hu; subst hu; rfl)
              case f6 => omega
              case f3 => unfold maxLen; omega
              case f4 => omega
              case f5 => have := HT9.size; first | omega | (simp; omega)
              intro g10 ic5 w10 hown' hgrow _ _
              rw [ints_one] at hown'
              have HT5 := (HT9.alloc _).put (I' := some ⟨g10, 0, none⟩) (ids' := ids ++ [_]) hgrow (by simpa using hown') ⟨_, rfl⟩
              clear HT9 hgrow hown'
              go_simp
              refine hK.out _ _ ?_ (fun hHeld => ?_)
              · exact HT5.d.c0
              clear hK K
              (first
                | (refine held_take (i := 11) (v := ?_) rfl (by kernel_rfl) (by kernel_rfl) (by kernel_rfl) (fun _ _ _ h => h) (Or.inl ⟨rfl, ?_⟩) (by assumption) ?_; rotate_left; (intro X hSw; (try dsimp only at hSw); (go_simp <;> with_reducible rfl)))
                | (refine held_take (i := 11) (v := undef) rfl (by kernel_rfl) (by kernel_rfl) (by kernel_rfl) (fun _ _ _ h => h) (Or.inr ⟨rfl, rfl⟩) (by assumption) ?_)); simp only [Act.put, List.setIfInBounds_toArray, List.set_cons_zero, List.set_cons_succ]
              refine wpAnyH_done (by kernel_rfl) ?_ _
              go_wp2_with fail
              go_meet
              exact ⟨_, _, ic5, by simp, by simp; omega, HT5.mono (by omega)⟩
        · go_wp2_with fail
          refine (pick_any (g + 1) g _ 2 _ HT.d.rd (by omega) (by omega) (by omega)).mono ?_
          rintro e w5 ⟨z, rfl, hz0, hz1, hrd5, hg5⟩
          have HT5 := HT.touch hg5 hrd5
          have hsz5 := HT5.size
          clear HT hg5 hrd5
          go_wp2_with (refine wpList_make_full _ rfl _ _ 26 rfl (V + 1) 3 i0 (.int .i64 0) 1 Try.underlying26 HI.out.1 HI.out.2.1 HI.out.2.2.1 .i64 .i64 (60 + z) (60 + z) (60 + z).toNat rfl rfl (by omega) (by omega) (by rw [HI.out.2.2.2]; omega) (by unfold maxLen; omega) (by omega) ?_)
          intro w6 hown6 hgr6
          rw [toList_madeCells_one, show List.replicate (60 + z).toNat (Value.int .i64 0) = ints (List.replicate (60 + z).toNat 0) by simp [ints]] at hown6
          have HT6 := HT5.fresh (ids' := List.replicate (60 + z).toNat 0) hgr6 (by simpa using hown6) ⟨_, rfl⟩
          clear HT5 hgr6 hown6
          go_wp2_with fail
          go_meet
          exact ⟨_, _, _, by simp, by simp; omega, HT6.mono (by omega)⟩
        · have y0 : (y == 0) = false := by rw [beq_eq_false_iff_ne]; omega
          have y1 : (y == 1) = false := by rw [beq_eq_false_iff_ne]; omega
          go_wp2_with fail
          go_meet
          exact ⟨ids, I, ic, rfl, by omega, HT.mono (by omega)⟩
      case rest =>
        clear HT
        obtain ⟨ids', I', ic', rfl, hl', HT⟩ := hcut
        have c0 := HT.d.c0
        have c1 := HT.d.c1
        have r0 := HT.d.r0
        have r1 := HT.d.r1
        have fr0 := HT.d.fr' 0
        have fr1 := HT.d.fr' 1
        go_wp2
        have q := HT.d.res (.slice A ss.length cap) (.int .i64 en)
        obtain ⟨d1, d2⟩ := HT.d.done (.slice A ss.length cap) (.int .i64 en)
        have hwg := HT.d.rg
        have hgB := HT.d.gB
        have hbv := HT.d.bv
        exact bodyPost_ret (v := .tuple #[.agg #[.slice A ss.length cap, .int .i64 en], .slice I' ids'.length ic']) (by simp [results, Try.results19, go_sem, q.1, q.2]) rfl ⟨ss, en, A, cap, ids', I', ic', rfl, hl, HS.out, he0, he1, hl', HT.s, d1, own_base (own_far (own_far HT.i (by simp; omega) _) (by simp; omega) _) (by omega), d2⟩

end Go.Proofs.Ytcanhkngikeeiaa
