/- What l71Bytes does: a short text is drawn. -/
import Derived.Test.YtkhcappjhefkjaaGreatDoorJD1
namespace Go.Proofs.YtkhcappjhefkjaaGreatDoor
open Go.RowKit
set_option linter.unusedVariables false

/-- A text of at most so many bytes is drawn; of what was there only the reader's block has turned. -/
def TextPost (w : World) (B g N m : Nat) (e : Ending) (w' : World) : Prop :=
  ∃ s : ByteArray, e = .returned (.string s) ∧ s.size ≤ m ∧ Rd w' B g (N + 20) ∧ w.grownBy w' (some g)

theorem info5 : (Tryz.prog.info? 5).map (fun i => (i.zero, i.size, i.bytes)) = some (some (.int .u8 0), 1, 1) := by kernel_rfl

theorem byts_one (zs : List Int) (x : Int) : byts zs ++ [.int .u8 x] = byts (zs ++ [x]) := by simp [byts]

/-- One byte more. -/
theorem own_byt {w : World} {base : Nat} {v : Value} {zs : List Int} {x : Int} (h : w.ownsRow base 5 1 v (zs.length + 1) (byts zs ++ [.int .u8 x])) :
    ∃ A cap ys, v = .slice A (zs.length + 1) cap ∧ ys.length = zs.length + 1 ∧ w.ownsRow base 5 1 (.slice A ys.length cap) ys.length (byts ys) := by
  rw [byts_one] at h
  obtain ⟨A, cap, rfl⟩ := own_form h
  exact ⟨A, cap, zs ++ [x], rfl, by simp, by simpa using h⟩

/-- Bytes that a call has made, as a string. -/
theorem conv_own {w : World} {base : Nat} {A : Option Addr} {cap : Nat} {zs : List Int} (h : w.ownsRow base 5 1 (.slice A zs.length cap) zs.length (byts zs)) (h0 : 0 < zs.length) :
    (convert 50 9 (.slice A zs.length cap)).run Tryz.prog w = .ok (.string (strOfNums zs)) w := by
  obtain ⟨b, off, rfl, _⟩ := (own_rowN h).byt h0
  refine run_convert_bytes_arg w 50 5 Tryz.underlying50 Tryz.underlying5 b off zs.length cap zs rfl (fun i hi => ?_) 9 Tryz.underlying9
  obtain ⟨b', off', e', hc⟩ := (own_rowN h).byt hi
  injection e' with e'; injection e' with e1 e2; subst e1 e2
  rw [hc]; simp [List.getD_eq_getElem?_getD, List.getElem?_eq_getElem hi]

set_option maxHeartbeats 1000000 in
theorem bytes_any (B g N : Nat) (m : Nat) (w : World) (hrd : Rd w B g N) (hB : B ≤ w.heap.size) (hN : N ≤ 50000) (hm : 1 ≤ m) (hm1 : m ≤ 10) :
    Calls Tryz.prog 68 #[.pointer (some ⟨g, 0, none⟩), .int .i64 m] w (TextPost w B g N (m + 1)) := by
  obtain ⟨i0, hi0, hz0, hz1, hz2⟩ := info_parts info5
  have HI := Lib.hid (And.intro hi0 (And.intro hz0 (And.intro hz1 hz2)))
  clear hi0 hz0 hz1 hz2
  have hgB := hrd.ltB
  have HD := Lib.hid hrd
  clear hrd
  go_enter Tryz.func68, Tryz.ntmps68
  go_wp2_with fail
  refine (pick_any B g N m _ (HD.out.alloc hB _) (by omega) (by omega) (by omega)).mono ?_
  rintro e w1 ⟨v, rfl, hv0, hv1, hrd1, hg1⟩
  have ho := World.ownsRow_lit (base := w.heap.size) (e := 5) (size := 1) w #[] 0 (by simp) (by simp [maxLen]) rfl
  have ho1 := own_old ho hg1 (by omega)
  have hgw : w.grownBy w1 (some g) := only_trans (only_alloc (only_of_below (Below.refl _ _) (Nat.le_refl _) _) _) hg1
  have HO := Lib.hid ho1
  have HD1 := Lib.hid hrd1
  have HG := Lib.hid hgw
  clear ho ho1 hrd1 hgw hg1
  have hv2 : v + 1 ≤ m := by rcases hv1 with h | h <;> omega
  go_wp2
  go_loopw [5, 6] (fun o c wr => ∃ (zs : List Int) (A : Option Addr) (cap j : Nat), o = .slice A zs.length cap ∧ c = .int .i64 j ∧ zs.length + j ≤ m ∧ 0 < zs.length + j ∧ wr.ownsRow w.heap.size 5 1 (.slice A zs.length cap) zs.length (byts zs) ∧
      Rd wr B g (N + 1 + zs.length) ∧ w.grownBy wr (some g)) (fun _ c _ => (intOf c).toNat)
  case atStart => exact ⟨[], _, _, (v + 1).toNat, rfl, by go_num, by simp; omega, by simp; omega, by simpa [byts] using HO.out, HD1.out, HG.out⟩
  case round =>
    obtain ⟨zs, A, cap, j, rfl, rfl, hj, hj0, hown, hrd2, hgw⟩ := hrel
    have hsz := hgw.size
    by_cases hj1 : 0 < j
    · have hj2 : (0 : Int) < (j : Int) := by omega
      go_wp2_with fail
      refine (pick_any B g _ 6 _ hrd2 (by omega) (by omega) (by omega)).mono ?_
      rintro e w2 ⟨x, rfl, hx0, hx1, hrd3, hg3⟩
      have hx2 : x < 6 := by rcases hx1 with h | h <;> omega
      have hx3 : x.toNat < 6 := by omega
      have hown2 := own_old hown hg3 (by omega)
      have hgw2 := only_trans hgw hg3
      have hs2 := hgw2.size
      clear hown hg3 hgw hrd2
      go_wp2_with (at_builtin; refine wpList_append_own _ rfl _ _ 50 rfl w.heap.size 5 i0 (.int .u8 0) 1 1 Tryz.underlying50 HI.out.1 HI.out.2.1 HI.out.2.2.1 HI.out.2.2.2 rfl (by decide) _ _ _ rfl (hown2.alloc _) ⟨w2.heap.size, 0, none⟩ 1 1 [_] rfl rfl (cell_one_new _ _ _) ?c2 ?c3 ?c4 ?c5 ?_)
      case c2 => first | rfl | (intro u hu; simp at hu; subst hu; rfl)
      case c3 => unfold maxLen; omega
      case c4 => omega
      case c5 => first | omega | (simp; omega)
      intro v' w3 hown' hgrow _
      have hrd4 := (hrd3.alloc (by omega) _).grown (by simp; omega) hgrow (fun k hk => by have := (hown2.lt k hk).1; omega)
      have hgw3 := only_new (only_alloc hgw2 _) hgrow (fun k hk => (hown2.lt k hk).1)
      obtain ⟨A', cap', ys, rfl, hyl, hown'⟩ := own_byt hown'
      have HY := Lib.hid hyl
      clear hown2 hgrow hgw2 hrd3 hyl
      go_wp2
      go_roundw
      case rel => exact ⟨ys, A', cap', j - 1, by rw [HY.out], by go_num, by rw [HY.out]; omega, by rw [HY.out]; omega, hown', hrd4.mono (Nat.le_refl _) (by rw [HY.out]; omega), hgw3⟩
      case measure => simp [intOf]; omega
    · have hj2 : ¬ (0 : Int) < (j : Int) := by omega
      go_wp2_with fail
      refine (pick_any B g _ 30 _ hrd2 (by omega) (by omega) (by omega)).mono ?_
      rintro e w2 ⟨x, rfl, hx0, hx1, hrd3, hg3⟩
      have hown2 := own_old hown hg3 (by omega)
      have hgw2 := only_trans hgw hg3
      have hs2 := hgw2.size
      clear hown hg3 hgw hrd2
      by_cases hx : x = 0
      · have hx' : (x == 0) = true := by simp [hx]
        clear hx
        go_wp2_with fail
        refine (pick_any B g _ 256 _ hrd3 (by omega) (by omega) (by omega)).mono ?_
        rintro e w3 ⟨y, rfl, hy0, hy1, hrd4, hg4⟩
        have hown3 := own_old hown2 hg4 (by omega)
        have hgw3 := only_trans hgw2 hg4
        have hs3 := hgw3.size
        clear hown2 hg4 hgw2 hrd3
        go_wp2_with (at_builtin; refine wpList_append_own _ rfl _ _ 50 rfl w.heap.size 5 i0 (.int .u8 0) 1 1 Tryz.underlying50 HI.out.1 HI.out.2.1 HI.out.2.2.1 HI.out.2.2.2 rfl (by decide) _ _ _ rfl (hown3.alloc _) ⟨w3.heap.size, 0, none⟩ 1 1 [_] rfl rfl (cell_one_new _ _ _) ?d2 ?d3 ?d4 ?d5 ?_)
        case d2 => first | rfl | (intro u hu; simp at hu; subst hu; rfl)
        case d3 => unfold maxLen; omega
        case d4 => omega
        case d5 => first | omega | (simp; omega)
        intro v' w4 hown' hgrow _
        have hrd5 := (hrd4.alloc (by omega) _).grown (by simp; omega) hgrow (fun k hk => by have := (hown3.lt k hk).1; omega)
        have hgw4 := only_new (only_alloc hgw3 _) hgrow (fun k hk => (hown3.lt k hk).1)
        obtain ⟨A', cap', ys, rfl, hyl, hown'⟩ := own_byt hown'
        clear hown3 hgrow hgw3 hrd4
        have hcv := conv_own hown' (by omega)
        rw [hyl] at hcv
        have HY := Lib.hid hyl
        clear hyl
        go_wp2
        go_ret
        exact ⟨_, rfl, by rw [strOfNums_size, HY.out]; omega, hrd5.mono (Nat.le_refl _) (by omega), hgw4⟩
      · have hx' : (x == 0) = false := by simpa using hx
        have hcv := conv_own hown2 (by omega)
        go_wp2
        go_ret
        exact ⟨_, rfl, by rw [strOfNums_size]; omega, hrd3.mono (Nat.le_refl _) (by omega), hgw2⟩

end Go.Proofs.YtkhcappjhefkjaaGreatDoor

