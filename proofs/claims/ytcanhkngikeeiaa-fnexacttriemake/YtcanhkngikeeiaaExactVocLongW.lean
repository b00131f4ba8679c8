/- The walk of the law FnExactVocLong: it returns true for every vocabulary and every text, and writes nothing that was there. -/
import Derived.Test.YtcanhkngikeeiaaM1
import Derived.Test.YtcanhkngikeeiaaL4
import Derived.Test.YtcanhkngikeeiaaL5
namespace Go.Proofs.Ytcanhkngikeeiaa
open Go.RowKit
set_option linter.unusedVariables false

/-- Ints lie in another block than strings. -/
theorem ints_far {w w' : World} {A : Option Addr} {zs : List Int} {g : Nat} {ss : List ByteArray} (h : Row w A (ints zs)) (ho : Own w g 9 (strs ss)) (hg : w.grownBy w' (some g)) : Row w' A (ints zs) := by
  rcases h with h | ⟨b, off, hA, hc⟩
  · exact .inl h
  · refine .inr ⟨b, off, hA, fun i hi => ?_⟩
    have hcell := hc i hi
    have hne : b ≠ g := by
      rintro rfl
      rw [ho.cell, ints_get] at hcell
      rcases Nat.lt_or_ge (off + i) (strs ss).length with h2 | h2
      · rw [List.getElem?_eq_getElem h2, strs_get] at hcell; simp at hcell
      · rw [List.getElem?_eq_none h2] at hcell; cases hcell
    exact (World.cell?_of_block (w := w) (hg.block b (cell_lt hcell) (fun e => hne (by injection e)))).trans hcell

/-- Cells of elder blocks stay while one block that is new turns. -/
theorem cell_old {w w' : World} {p : Addr} {v : Value} {row : Option Nat} (h : w.cell? p = some v) (hg : w.grownBy w' row) (hr : ∀ k, row = some k → p.block ≠ k) : w'.cell? p = some v :=
  (World.cell?_of_block (w := w) (hg.block p.block (cell_lt h) (fun e => hr _ e.symm rfl))).trans h

theorem tot_ge : ∀ {ss : List ByteArray} {s : ByteArray}, s ∈ ss → s.size ≤ tot ss
  | x :: xs, s, h => by
    simp only [tot, List.map_cons, List.sum_cons]
    rcases List.mem_cons.1 h with e | e
    · subst e; omega
    · have := tot_ge e; unfold tot at this; omega

/-- A row of elder blocks stays while one block from 'base' on turns. -/
theorem row_far {w w' : World} {A : Option Addr} {xs : List Value} {base : Nat} {row : Option Nat} (h : Row w A xs) (hA : xs = [] ∨ ∃ b off, A = some ⟨b, off, none⟩ ∧ b < base) (hg : w.grownBy w' row) (hr : ∀ k, row = some k → base ≤ k) : Row w' A xs := by
  rcases hA with e | ⟨b, off, rfl, hb⟩
  · exact .inl e
  · rcases h with h | ⟨b', off', e, hc⟩
    · exact .inl h
    · injection e with e; injection e with e1 e2; subst e1 e2
      exact .inr ⟨b, off, rfl, fun i hi => (World.cell?_of_block (w := w) (hg.block b (cell_lt (hc i hi)) (fun e => by have := hr b e.symm; omega))).trans (hc i hi)⟩
theorem row_bound {w : World} {A : Option Addr} {xs : List Value} (h : Row w A xs) : xs = [] ∨ ∃ b off, A = some ⟨b, off, none⟩ ∧ b < w.heap.size := by
  rcases h with h | ⟨b, off, hA, hc⟩
  · exact .inl h
  · cases xs with
    | nil => exact .inl rfl
    | cons x xs => exact .inr ⟨b, off, hA, cell_lt (hc 0 (by simp))⟩

set_option maxRecDepth 100000 in
set_option maxHeartbeats 4000000 in
theorem exactVocLong_walk (a : Option Addr) (c : Nat) (ss : List ByteArray) (en : Int) (t : ByteArray) (w : World) (hr : Row w a (strs ss)) (hm : ss.length ≤ maxLen) (hs : ∀ s ∈ ss, s.size ≤ maxLen) (ht : t.size ≤ maxLen) :
    Calls Try.prog 16 #[.agg #[.slice a ss.length c, .int .i64 en], .string t] w (True_ w) := by
  have HR := Lib.hid hr
  have HS := Lib.hid hs
  clear hr hs
  unfold maxLen at ht
  by_cases hbig : 1048576 < t.size
  · have hbig' : (1048576 : Int) < (t.size : Int) := by omega
    go_enter Try.func16, Try.ntmps16
    go_wp2
    go_ret
    exact ⟨rfl, below_box _⟩
  · have hbig' : ¬ (1048576 : Int) < (t.size : Int) := by omega
    have ht2 : t.size ≤ 1048576 := by omega
    go_enter Try.func16, Try.ntmps16
    go_wp2_with fail
    refine (szVoc_any a c ss en 1048576 _ (HR.out.alloc _) hm HS.out (by omega) (by omega)).mono ?_
    rintro e w1 ⟨r, rfl, hz, hb⟩
    have hb1 : Below w.heap.size w w1 := (below_box _).trans (hb.mono (by simp))
    have h0 : w1.cell? ⟨w.heap.size, 0, none⟩ = some (.slice a ss.length c) := cell_keep hb (by simp)
    have h1 : w1.cell? ⟨w.heap.size, 1, none⟩ = some (.int .i64 en) := cell_keep hb (by simp)
    clear hb
    by_cases hn : r < 0
    · go_wp2
      go_ret
      exact ⟨rfl, hb1⟩
    · have hlen : ss.length ≤ 1048576 := by rcases hz with h | h <;> omega
      have hss : Hid (∀ s ∈ ss, s.size ≤ 1048576) := by
        intro s hs
        have h2 : s.size ≤ tot ss := by
          exact tot_ge hs
        rcases hz with h | h <;> omega
      clear hz HS
      go_wp2_with fail
      refine (toVoc_any a c ss en _ (HR.out.keep hb1) hlen).mono ?_
      rintro e w2 ⟨g, rfl, hg, hown, hb⟩
      have hb2 : Below w.heap.size w w2 := hb1.trans (hb.mono hb1.size)
      replace h0 := cell_keep hb h0
      replace h1 := cell_keep hb h1
      clear hb hb1 hg
      go_wp2_with fail
      refine (specLong_any _ _ ss en t _ hown.row hlen hss.out ht2).mono ?_
      rintro e w4 ⟨A4, cap4, rfl, ho4, hb⟩
      have hb4 : Below w.heap.size w w4 := hb2.trans (hb.mono hb2.size)
      replace h0 := cell_keep hb h0
      replace h1 := cell_keep hb h1
      have hr4 := own_row ho4
      have hsz4 : w.heap.size < w4.heap.size := cell_lt h0
      clear hb hb2 hown ho4
      have hlr : ((vocLongR ss en t).getD []).length ≤ 60 := by
        rcases hR : vocLongR ss en t with _ | out
        · simp
        · have := (vocLongR_cut hR).2.2; simpa using this
      go_wp2_with fail
      refine (toVoc_any a c ss en _ (HR.out.keep hb4) hlen).mono ?_
      rintro e w5 ⟨g5, rfl, hg5, ho5, hb⟩
      have hb5 : Below w.heap.size w w5 := hb4.trans (hb.mono hb4.size)
      replace h0 := cell_keep hb h0
      replace h1 := cell_keep hb h1
      replace hr4 := hr4.keep hb
      have hg5w : w.heap.size < g5 := by omega
      clear hb hb4 hg5
      have hx0 := Own.new w5 25 #[.slice (some ⟨g5, 0, none⟩) ss.length ss.length, .int .i64 en]
      have hb5' := hb5.alloc hb5.size (.cells #[.slice (some ⟨g5, 0, none⟩) ss.length ss.length, .int .i64 en] 25)
      have hg5x : g5 < w5.heap.size := ho5.lt
      replace ho5 := ho5.alloc (.cells #[.slice (some ⟨g5, 0, none⟩) ss.length ss.length, .int .i64 en] 25)
      replace h0 := cell_alloc h0 (.cells #[.slice (some ⟨g5, 0, none⟩) ss.length ss.length, .int .i64 en] 25)
      replace h1 := cell_alloc h1 (.cells #[.slice (some ⟨g5, 0, none⟩) ss.length ss.length, .int .i64 en] 25)
      replace hr4 := hr4.alloc (.cells #[.slice (some ⟨g5, 0, none⟩) ss.length ss.length, .int .i64 en] 25)
      have hbd := row_bound hr4
      simp only [World.size_alloc] at hbd
      clear hb5
      go_wp2_with fail
      refine (implLong_any _ _ ss en t _ ho5.row hlen hss.out ht2).mono ?_
      rintro e w7 ⟨A7, cap7, rfl, ho7, hb⟩
      have hb7 : Below w.heap.size w w7 := hb5'.trans (hb.mono hb5'.size)
      replace h0 := cell_keep hb h0
      replace h1 := cell_keep hb h1
      replace ho5 := ho5.keep hb
      replace hx0 := hx0.keep hb
      replace hr4 := hr4.keep hb
      clear hb hb5'
      generalize hq : vocLongR ss en t = R at *
      have HQ := Lib.hid hq
      clear hq
      simp only [World.size_alloc] at ho7
      go_wp2_with fail
      refine (eqIntS_same _ _ _ _ (R.getD []) _ (own_row ho7) hr4 (by omega)).mono ?_
      rintro e w8 ⟨rfl, hb⟩
      have hb8 : Below w.heap.size w w8 := hb7.trans (hb.mono hb7.size)
      replace h0 := cell_keep hb h0
      replace h1 := cell_keep hb h1
      replace ho5 := ho5.keep hb
      replace hx0 := hx0.keep hb
      replace hr4 := hr4.keep hb
      replace ho7 := own_keep ho7 hb
      have x0 : w8.cell? ⟨w5.heap.size, 0, none⟩ = some (.slice (some ⟨g5, 0, none⟩) ss.length ss.length) := by rw [hx0.cell]; rfl
      have x1 : w8.cell? ⟨w5.heap.size, 1, none⟩ = some (.int .i64 en) := by rw [hx0.cell]; rfl
      clear hb hb7 hx0
      generalize w5.heap.size = X at *
      have hok1 : (R.isSome != R.isSome) = false := by simp
      go_wp2
      go_region_held3 (fun W => W.cell? ⟨w.heap.size, 0, none⟩ = some (.slice a ss.length c) ∧ W.cell? ⟨w.heap.size, 1, none⟩ = some (.int .i64 en) ∧ W.cell? ⟨X, 0, none⟩ = some (.slice (some ⟨g5, 0, none⟩) ss.length ss.length) ∧ W.cell? ⟨X, 1, none⟩ = some (.int .i64 en))
        (first | exact ⟨cell_keep hb10 (cell_keep hb9 h0), cell_keep hb10 (cell_keep hb9 h1), cell_keep hb10 (cell_keep hb9 x0), cell_keep hb10 (cell_keep hb9 x1)⟩ | exact ⟨cell_keep hb9 h0, cell_keep hb9 h1, cell_keep hb9 x0, cell_keep hb9 x1⟩ | exact ⟨h0, h1, x0, x1⟩)
        (first | (go_at_call 37; refine (toVoc_any a c ss en _ (HR.out.keep hb8.drew) hlen).mono ?_; rintro e w9 ⟨g9, rfl, hg9, hown9, hb9⟩)
               | (go_at_call 38; refine (eqVoc_same _ _ _ _ ss en _ (ho5.drew.keep hb9).row hown9.row hlen).mono ?_; rintro e w10 ⟨rfl, hb10⟩))
      have hb9' : Below w.heap.size w w9 := hb8.drew.trans (hb9.mono hb8.drew.size)
      have hb10' : Below w.heap.size w w10 := hb9'.trans (hb10.mono hb9'.size)
      replace h0 := cell_keep hb10 (cell_keep hb9 h0)
      replace h1 := cell_keep hb10 (cell_keep hb9 h1)
      replace x0 := cell_keep hb10 (cell_keep hb9 x0)
      replace x1 := cell_keep hb10 (cell_keep hb9 x1)
      replace ho5 := (ho5.drew.keep hb9).keep hb10
      replace hr4 := (hr4.drew.keep hb9).keep hb10
      replace ho7 := own_keep (own_keep ho7.drew hb9) hb10
      clear hb8 hb9 hb9' hb10 hown9 hg9
      go_wp2_with fail
      refine (markVoc_any g5 ss en 1 _ ho5 hlen (by omega) (by omega)).mono ?_
      rintro e w11 ⟨rfl, hg11⟩
      have hb11 : Below w.heap.size w w11 := hb10'.grown hg11 hb10'.size (fun k hk => by injection hk with hk; omega)
      replace h0 := cell_old h0 hg11 (fun k hk => by injection hk with hk; simp; omega)
      replace h1 := cell_old h1 hg11 (fun k hk => by injection hk with hk; simp; omega)
      replace hr4 := ints_far hr4 ho5 hg11
      replace ho7 := own_old ho7 hg11 (by omega)
      clear hg11 ho5 x0 x1 hb10'
      go_wp2_with fail
      refine (eqIntS_same _ _ _ _ (R.getD []) _ (own_row ho7) hr4 (by omega)).mono ?_
      rintro e w12 ⟨rfl, hb⟩
      have hb12 : Below w.heap.size w w12 := hb11.trans (hb.mono hb11.size)
      replace h0 := cell_keep hb h0
      replace h1 := cell_keep hb h1
      replace hr4 := hr4.keep hb
      replace ho7 := own_keep ho7 hb
      clear hb hb11
      go_wp2_with fail
      refine (markI_any (X + 1) A7 cap7 (R.getD []) 1 _ ho7 (by omega) (by omega) (by omega)).mono ?_
      rintro e w13 ⟨rfl, ho13, hg13⟩
      have hlt7 : ∀ k, (Value.slice A7 (R.getD []).length cap7).ownBlock = some k → X + 1 ≤ k := fun k hk => (ho7.lt k hk).1
      have hb13 : Below w.heap.size w w13 := hb12.grown hg13 hb12.size (fun k hk => by have := hlt7 k hk; omega)
      replace h0 := cell_old h0 hg13 (fun k hk => by have := hlt7 k hk; simp; omega)
      replace h1 := cell_old h1 hg13 (fun k hk => by have := hlt7 k hk; simp; omega)
      replace hr4 := row_far hr4 hbd hg13 hlt7
      clear hg13 ho7 hb12 hbd hlt7
      have hmr := own_row ho13
      clear ho13
      generalize hnn : (R.getD []).length = n at *
      have HNN := Lib.hid hnn
      clear hnn
      have hq0 : ¬ (1 + (n : Int)) < 0 := by omega
      have hq1 : ((1 + (n : Int)) != (1 + (n : Int))) = false := by simp
      go_wp2_with fail
      refine (heldI_any A7 cap7 n 1 _ hmr (by omega) (by omega) (by omega)).mono ?_
      rintro e w14 ⟨rfl, rfl⟩
      go_wp2_with fail
      refine (toVoc_any a c ss en _ (HR.out.keep hb13) hlen).mono ?_
      rintro e w15 ⟨g15, rfl, hg15, ho15, hb⟩
      have hb15 : Below w.heap.size w w15 := hb13.trans (hb.mono hb13.size)
      replace hr4 := hr4.keep hb
      replace hmr := hmr.keep hb
      clear hb hb13 hg15 h0 h1
      go_wp2_with fail
      refine (implLong_any _ _ ss en t _ ho15.row hlen hss.out ht2).mono ?_
      rintro e w16 ⟨A16, cap16, rfl, ho16, hb⟩
      have hb16 : Below w.heap.size w w16 := hb15.trans (hb.mono hb15.size)
      replace hr4 := hr4.keep hb
      replace hmr := hmr.keep hb
      have hr16 := own_row ho16
      clear hb hb15 ho15 ho16
      rw [HQ.out] at hr16 ⊢
      have hlastq := eqIntS_same A16 A4 cap16 cap4 (R.getD []) w16 hr16 hr4 (by have := HNN.out; omega)
      rw [HNN.out] at hlastq ⊢
      have HL := Lib.hid hlastq
      clear hlastq
      go_wp2_with fail
      refine HL.out.mono ?_
      rintro e w17 ⟨rfl, hb⟩
      have hb17 : Below w.heap.size w w17 := hb16.trans (hb.mono hb16.size)
      replace hmr := hmr.keep hb
      clear hb hb16 HL
      go_wp2_with fail
      refine (heldI_any A7 cap7 n 1 _ hmr (by omega) (by omega) (by omega)).mono ?_
      rintro e w18 ⟨rfl, rfl⟩
      go_wp2
      go_ret
      exact ⟨rfl, hb17⟩

end Go.Proofs.Ytcanhkngikeeiaa
