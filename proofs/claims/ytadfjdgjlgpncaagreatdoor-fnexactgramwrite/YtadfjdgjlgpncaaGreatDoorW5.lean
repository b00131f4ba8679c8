/- How often a part comes, written: spec.l2Times, impl.timesText (written by tools/gen_w5.py). -/
import Derived.Test.YtadfjdgjlgpncaaGreatDoorW4
namespace Go.Proofs.YtadfjdgjlgpncaaGreatDoor
open Go.RowKit
set_option linter.unusedVariables false

set_option maxRecDepth 100000 in
set_option maxHeartbeats 2000000 in
theorem timesText_any (mn mx : Int) (w : World) (h0 : 0 ≤ mn) (h6 : mn ≤ 6) (hx : mx = -1 ∨ (0 ≤ mx ∧ mx ≤ 6)) :
    Calls Tryz.prog 101 #[.int .i64 mn, .int .i64 mx] w (TextIs (timesT mn mx) w) := by
  by_cases a0 : mn = 0 ∧ mx = -1
  · obtain ⟨rfl, rfl⟩ := a0
    go_enter Tryz.func101, Tryz.ntmps101
    go_wp2
    go_ret
    exact ⟨_, rfl, rfl, Below.refl _ _⟩
  by_cases a1 : mn = 1 ∧ mx = -1
  · obtain ⟨rfl, rfl⟩ := a1
    go_enter Tryz.func101, Tryz.ntmps101
    go_wp2
    go_ret
    exact ⟨_, rfl, rfl, Below.refl _ _⟩
  by_cases a2 : mn = 0 ∧ mx = 1
  · obtain ⟨rfl, rfl⟩ := a2
    go_enter Tryz.func101, Tryz.ntmps101
    go_wp2
    go_ret
    exact ⟨_, rfl, rfl, Below.refl _ _⟩
  by_cases a3 : mx = -1
  · subst a3
    have HT : Hid (timesT mn (-1) = [123, dig mn, 44, 125]) := by show _ = _; unfold timesT; rw [if_neg a0, if_neg a1, if_neg a2, if_pos rfl]
    have f0 : (mn == 0) = false := by rw [beq_eq_false_iff_ne]; exact fun h => a0 ⟨h, rfl⟩
    have f1 : (mn == 1) = false := by rw [beq_eq_false_iff_ne]; exact fun h => a1 ⟨h, rfl⟩
    clear a0 a1 a2
    go_enter Tryz.func101, Tryz.ntmps101
    go_wp2_with fail
    refine (itoa_small mn _ h0 (by omega)).mono ?_
    rintro e w' ⟨⟨s1, rfl, h1⟩, rfl⟩
    have z1 : s1.size ≤ 1 := by rw [bl_size, h1]; simp
    have H1 := Lib.hid h1
    clear h1
    go_wp2
    go_ret
    exact ⟨_, rfl, by rw [HT.out, bl_append, bl_append, H1.out]; rfl, Below.refl _ _⟩
  · have HT : Hid (timesT mn mx = [123, dig mn, 44, dig mx, 125]) := by show _ = _; unfold timesT; rw [if_neg a0, if_neg a1, if_neg a2, if_neg a3]
    have hmx : 0 ≤ mx := by omega
    have hmx6 : mx ≤ 6 := by omega
    have f3 : (mx == -1) = false := by rw [beq_eq_false_iff_ne]; exact a3
    by_cases b0 : mn = 0
    · subst b0
      have f2 : (mx == 1) = false := by rw [beq_eq_false_iff_ne]; exact fun h => a2 ⟨rfl, h⟩
      clear a0 a1 a2 a3
      go_enter Tryz.func101, Tryz.ntmps101
      go_wp2_with fail
      refine (itoa_small 0 _ (by omega) (by omega)).mono ?_
      rintro e w' ⟨⟨s1, rfl, h1⟩, rfl⟩
      have z1 : s1.size ≤ 1 := by rw [bl_size, h1]; simp
      have H1 := Lib.hid h1
      clear h1
      go_wp2_with fail
      refine (itoa_small mx _ hmx (by omega)).mono ?_
      rintro e w' ⟨⟨s2, rfl, h2⟩, rfl⟩
      have z2 : s2.size ≤ 1 := by rw [bl_size, h2]; simp
      have H2 := Lib.hid h2
      clear h2
      go_wp2
      go_ret
      exact ⟨_, rfl, by rw [HT.out, bl_append, bl_append, bl_append, bl_append, H1.out, H2.out]; rfl, Below.refl _ _⟩
    · by_cases b1 : mn = 1
      · subst b1
        clear a0 a1 a2 a3
        go_enter Tryz.func101, Tryz.ntmps101
        go_wp2_with fail
        refine (itoa_small 1 _ (by omega) (by omega)).mono ?_
        rintro e w' ⟨⟨s1, rfl, h1⟩, rfl⟩
        have z1 : s1.size ≤ 1 := by rw [bl_size, h1]; simp
        have H1 := Lib.hid h1
        clear h1
        go_wp2_with fail
        refine (itoa_small mx _ hmx (by omega)).mono ?_
        rintro e w' ⟨⟨s2, rfl, h2⟩, rfl⟩
        have z2 : s2.size ≤ 1 := by rw [bl_size, h2]; simp
        have H2 := Lib.hid h2
        clear h2
        go_wp2
        go_ret
        exact ⟨_, rfl, by rw [HT.out, bl_append, bl_append, bl_append, bl_append, H1.out, H2.out]; rfl, Below.refl _ _⟩
      · have f0 : (mn == 0) = false := by rw [beq_eq_false_iff_ne]; exact b0
        have f1 : (mn == 1) = false := by rw [beq_eq_false_iff_ne]; exact b1
        clear a0 a1 a2 a3
        go_enter Tryz.func101, Tryz.ntmps101
        go_wp2_with fail
        refine (itoa_small mn _ (by omega) (by omega)).mono ?_
        rintro e w' ⟨⟨s1, rfl, h1⟩, rfl⟩
        have z1 : s1.size ≤ 1 := by rw [bl_size, h1]; simp
        have H1 := Lib.hid h1
        clear h1
        go_wp2_with fail
        refine (itoa_small mx _ hmx (by omega)).mono ?_
        rintro e w' ⟨⟨s2, rfl, h2⟩, rfl⟩
        have z2 : s2.size ≤ 1 := by rw [bl_size, h2]; simp
        have H2 := Lib.hid h2
        clear h2
        go_wp2
        go_ret
        exact ⟨_, rfl, by rw [HT.out, bl_append, bl_append, bl_append, bl_append, H1.out, H2.out]; rfl, Below.refl _ _⟩

set_option maxRecDepth 100000 in
set_option maxHeartbeats 2000000 in
theorem l2Times_any (k : Int) (t : ByteArray) (nlo nhi nk : Nat) (mn mx : Int) (A B K : Option Addr) (ca cb kc : Nat) (w : World) (h0 : 0 ≤ mn) (h6 : mn ≤ 6) (hx : mx = -1 ∨ (0 ≤ mx ∧ mx ≤ 6)) :
    Calls Tryz.prog 60 #[.agg #[.int .i64 k, .string t, .slice A nlo ca, .slice B nhi cb, .slice K nk kc, .int .i64 mn, .int .i64 mx]] w (TextIs (timesT mn mx) w) := by
  have HBX : Hid (Below w.heap.size w (w.alloc (.cells #[.int .i64 k, .string t, .slice A nlo ca, .slice B nhi cb, .slice K nk kc, .int .i64 mn, .int .i64 mx] 38))) := (Below.refl _ _).alloc (Nat.le_refl _) _
  by_cases a0 : mn = 0 ∧ mx = -1
  · obtain ⟨rfl, rfl⟩ := a0
    go_enter Tryz.func60, Tryz.ntmps60
    go_wp2
    go_ret
    exact ⟨_, rfl, rfl, HBX.out⟩
  by_cases a1 : mn = 1 ∧ mx = -1
  · obtain ⟨rfl, rfl⟩ := a1
    go_enter Tryz.func60, Tryz.ntmps60
    go_wp2
    go_ret
    exact ⟨_, rfl, rfl, HBX.out⟩
  by_cases a2 : mn = 0 ∧ mx = 1
  · obtain ⟨rfl, rfl⟩ := a2
    go_enter Tryz.func60, Tryz.ntmps60
    go_wp2
    go_ret
    exact ⟨_, rfl, rfl, HBX.out⟩
  by_cases a3 : mx = -1
  · subst a3
    have HT : Hid (timesT mn (-1) = [123, dig mn, 44, 125]) := by show _ = _; unfold timesT; rw [if_neg a0, if_neg a1, if_neg a2, if_pos rfl]
    have f0 : (mn == 0) = false := by rw [beq_eq_false_iff_ne]; exact fun h => a0 ⟨h, rfl⟩
    have f1 : (mn == 1) = false := by rw [beq_eq_false_iff_ne]; exact fun h => a1 ⟨h, rfl⟩
    clear a0 a1 a2
    go_enter Tryz.func60, Tryz.ntmps60
    go_wp2_with fail
    refine (l6Dec_small mn _ h0 (by omega)).mono ?_
    rintro e w2 ⟨s1, rfl, h1, hb2⟩
    have z1 : s1.size ≤ 1 := by rw [bl_size, h1]; simp
    have H1 := Lib.hid h1
    clear h1
    have hbb := HBX.out.trans (hb2.mono HBX.out.size)
    go_wp2
    go_ret
    exact ⟨_, rfl, by rw [HT.out, bl_append, bl_append, H1.out]; rfl, hbb⟩
  · have HT : Hid (timesT mn mx = [123, dig mn, 44, dig mx, 125]) := by show _ = _; unfold timesT; rw [if_neg a0, if_neg a1, if_neg a2, if_neg a3]
    have hmx : 0 ≤ mx := by omega
    have hmx6 : mx ≤ 6 := by omega
    have f3 : (mx == -1) = false := by rw [beq_eq_false_iff_ne]; exact a3
    by_cases b0 : mn = 0
    · subst b0
      have f2 : (mx == 1) = false := by rw [beq_eq_false_iff_ne]; exact fun h => a2 ⟨rfl, h⟩
      clear a0 a1 a2 a3
      have k5 : (w.alloc (.cells #[.int .i64 k, .string t, .slice A nlo ca, .slice B nhi cb, .slice K nk kc, .int .i64 0, .int .i64 mx] 38)).cell? ⟨w.heap.size, 5, none⟩ = some (.int .i64 0) := by simp
      have k6 : (w.alloc (.cells #[.int .i64 k, .string t, .slice A nlo ca, .slice B nhi cb, .slice K nk kc, .int .i64 0, .int .i64 mx] 38)).cell? ⟨w.heap.size, 6, none⟩ = some (.int .i64 mx) := by simp
      go_enter Tryz.func60, Tryz.ntmps60
      go_wp2
      generalize w.alloc (.cells #[.int .i64 k, .string t, .slice A nlo ca, .slice B nhi cb, .slice K nk kc, .int .i64 0, .int .i64 mx] 38) = W at *
      go_region_held3 (fun X => X.cell? ⟨w.heap.size, 5, none⟩ = some (.int .i64 0) ∧ X.cell? ⟨w.heap.size, 6, none⟩ = some (.int .i64 mx))
        (first | exact ⟨cell_keep hb3 (cell_keep hb2 k5), cell_keep hb3 (cell_keep hb2 k6)⟩ | exact ⟨cell_keep hb2 k5, cell_keep hb2 k6⟩ | exact ⟨k5, k6⟩)
        (first | (have hx := hb2; clear hx; go_at_call 96; refine (l6Dec_small mx _ hmx (by omega)).mono ?_; rintro e w3 ⟨s2, rfl, h2, hb3⟩; have z2 : s2.size ≤ 1 := by { rw [bl_size, h2]; simp }; have H2 := Lib.hid h2; clear h2; have q3 : ¬ 9223372036854775807 < 1 + s1.size + 1 + s2.size := (by omega); have q4 : ¬ 9223372036854775807 < 1 + s1.size + 1 + s2.size + 1 := (by omega))
               | (go_at_call 96; refine (l6Dec_small 0 _ (by omega) (by omega)).mono ?_; rintro e w2 ⟨s1, rfl, h1, hb2⟩; have z1 : s1.size ≤ 1 := by { rw [bl_size, h1]; simp }; have H1 := Lib.hid h1; clear h1; have q1 : ¬ 9223372036854775807 < 1 + s1.size := (by omega); have q2 : ¬ 9223372036854775807 < 1 + s1.size + 1 := (by omega)))
      have hbb := HBX.out.trans ((((Below.refl _ _).drew : Below W.heap.size W W.drew).trans (hb2.trans (hb3.mono hb2.size))).mono HBX.out.size)
      go_wp2
      go_ret
      exact ⟨_, rfl, by rw [HT.out, bl_append, bl_append, bl_append, bl_append, H1.out, H2.out]; rfl, hbb⟩
    · by_cases b1 : mn = 1
      · subst b1
        clear a0 a1 a2 a3
        have k5 : (w.alloc (.cells #[.int .i64 k, .string t, .slice A nlo ca, .slice B nhi cb, .slice K nk kc, .int .i64 1, .int .i64 mx] 38)).cell? ⟨w.heap.size, 5, none⟩ = some (.int .i64 1) := by simp
        have k6 : (w.alloc (.cells #[.int .i64 k, .string t, .slice A nlo ca, .slice B nhi cb, .slice K nk kc, .int .i64 1, .int .i64 mx] 38)).cell? ⟨w.heap.size, 6, none⟩ = some (.int .i64 mx) := by simp
        go_enter Tryz.func60, Tryz.ntmps60
        go_wp2
        generalize w.alloc (.cells #[.int .i64 k, .string t, .slice A nlo ca, .slice B nhi cb, .slice K nk kc, .int .i64 1, .int .i64 mx] 38) = W at *
        go_region_held3 (fun X => X.cell? ⟨w.heap.size, 5, none⟩ = some (.int .i64 1) ∧ X.cell? ⟨w.heap.size, 6, none⟩ = some (.int .i64 mx))
          (first | exact ⟨cell_keep hb3 (cell_keep hb2 k5), cell_keep hb3 (cell_keep hb2 k6)⟩ | exact ⟨cell_keep hb2 k5, cell_keep hb2 k6⟩ | exact ⟨k5, k6⟩)
          (first | (have hx := hb2; clear hx; go_at_call 96; refine (l6Dec_small mx _ hmx (by omega)).mono ?_; rintro e w3 ⟨s2, rfl, h2, hb3⟩; have z2 : s2.size ≤ 1 := by { rw [bl_size, h2]; simp }; have H2 := Lib.hid h2; clear h2; have q3 : ¬ 9223372036854775807 < 1 + s1.size + 1 + s2.size := (by omega); have q4 : ¬ 9223372036854775807 < 1 + s1.size + 1 + s2.size + 1 := (by omega))
                 | (go_at_call 96; refine (l6Dec_small 1 _ (by omega) (by omega)).mono ?_; rintro e w2 ⟨s1, rfl, h1, hb2⟩; have z1 : s1.size ≤ 1 := by { rw [bl_size, h1]; simp }; have H1 := Lib.hid h1; clear h1; have q1 : ¬ 9223372036854775807 < 1 + s1.size := (by omega); have q2 : ¬ 9223372036854775807 < 1 + s1.size + 1 := (by omega)))
        have hbb := HBX.out.trans ((((Below.refl _ _).drew : Below W.heap.size W W.drew).trans (hb2.trans (hb3.mono hb2.size))).mono HBX.out.size)
        go_wp2
        go_ret
        exact ⟨_, rfl, by rw [HT.out, bl_append, bl_append, bl_append, bl_append, H1.out, H2.out]; rfl, hbb⟩
      · have f0 : (mn == 0) = false := by rw [beq_eq_false_iff_ne]; exact b0
        have f1 : (mn == 1) = false := by rw [beq_eq_false_iff_ne]; exact b1
        clear a0 a1 a2 a3
        have k5 : (w.alloc (.cells #[.int .i64 k, .string t, .slice A nlo ca, .slice B nhi cb, .slice K nk kc, .int .i64 mn, .int .i64 mx] 38)).cell? ⟨w.heap.size, 5, none⟩ = some (.int .i64 mn) := by simp
        have k6 : (w.alloc (.cells #[.int .i64 k, .string t, .slice A nlo ca, .slice B nhi cb, .slice K nk kc, .int .i64 mn, .int .i64 mx] 38)).cell? ⟨w.heap.size, 6, none⟩ = some (.int .i64 mx) := by simp
        go_enter Tryz.func60, Tryz.ntmps60
        go_wp2
        generalize w.alloc (.cells #[.int .i64 k, .string t, .slice A nlo ca, .slice B nhi cb, .slice K nk kc, .int .i64 mn, .int .i64 mx] 38) = W at *
        go_region_held3 (fun X => X.cell? ⟨w.heap.size, 5, none⟩ = some (.int .i64 mn) ∧ X.cell? ⟨w.heap.size, 6, none⟩ = some (.int .i64 mx))
          (first | exact ⟨cell_keep hb3 (cell_keep hb2 k5), cell_keep hb3 (cell_keep hb2 k6)⟩ | exact ⟨cell_keep hb2 k5, cell_keep hb2 k6⟩ | exact ⟨k5, k6⟩)
          (first | (have hx := hb2; clear hx; go_at_call 96; refine (l6Dec_small mx _ hmx (by omega)).mono ?_; rintro e w3 ⟨s2, rfl, h2, hb3⟩; have z2 : s2.size ≤ 1 := by { rw [bl_size, h2]; simp }; have H2 := Lib.hid h2; clear h2; have q3 : ¬ 9223372036854775807 < 1 + s1.size + 1 + s2.size := (by omega); have q4 : ¬ 9223372036854775807 < 1 + s1.size + 1 + s2.size + 1 := (by omega))
                 | (go_at_call 96; refine (l6Dec_small mn _ (by omega) (by omega)).mono ?_; rintro e w2 ⟨s1, rfl, h1, hb2⟩; have z1 : s1.size ≤ 1 := by { rw [bl_size, h1]; simp }; have H1 := Lib.hid h1; clear h1; have q1 : ¬ 9223372036854775807 < 1 + s1.size := (by omega); have q2 : ¬ 9223372036854775807 < 1 + s1.size + 1 := (by omega)))
        have hbb := HBX.out.trans ((((Below.refl _ _).drew : Below W.heap.size W W.drew).trans (hb2.trans (hb3.mono hb2.size))).mono HBX.out.size)
        go_wp2
        go_ret
        exact ⟨_, rfl, by rw [HT.out, bl_append, bl_append, bl_append, bl_append, H1.out, H2.out]; rfl, hbb⟩

end Go.Proofs.YtadfjdgjlgpncaaGreatDoor
