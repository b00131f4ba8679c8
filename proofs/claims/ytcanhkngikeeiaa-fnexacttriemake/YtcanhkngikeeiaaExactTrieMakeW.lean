/- The walk of the law FnExactTrieMake: it returns true for every vocabulary, and writes nothing that was there. -/
import Derived.Test.YtcanhkngikeeiaaY1
import Derived.Test.YtcanhkngikeeiaaExactVocLongW
namespace Go.Proofs.Ytcanhkngikeeiaa
open Go.RowKit
set_option linter.unusedVariables false

set_option maxRecDepth 100000 in
set_option maxHeartbeats 4000000 in
theorem exactTrieMake_walk (a : Option Addr) (c : Nat) (ss : List ByteArray) (en : Int) (w : World) (hr : Row w a (strs ss)) (hm : ss.length ≤ maxLen) (hs : ∀ s ∈ ss, s.size ≤ maxLen) :
    Calls Try.prog 17 #[.agg #[.slice a ss.length c, .int .i64 en]] w (True_ w) := by
  have HR := Lib.hid hr
  have HS := Lib.hid hs
  clear hr hs
  go_enter Try.func17, Try.ntmps17
  go_wp2_with fail
  refine (szVoc_any a c ss en 1048576 _ (HR.out.alloc _) hm HS.out (by omega) (by omega)).mono ?_
  rintro e w1 ⟨r, rfl, hz, hb⟩
  have hb1 : Below w.heap.size w w1 := (below_box _).trans (hb.mono (by simp))
  have h0 : w1.cell? ⟨w.heap.size, 0, none⟩ = some (.slice a ss.length c) := cell_keep hb (by simp)
  have h1 : w1.cell? ⟨w.heap.size, 1, none⟩ = some (.int .i64 en) := cell_keep hb (by simp)
  clear hb
  by_cases hn : r < 0
  · go_wp2
    go_ret
    exact ⟨rfl, hb1⟩
  have hlen : ss.length ≤ 1048576 := by rcases hz with h | h <;> omega
  clear hz HS
  have hL241 : (trieOf ss en).length ≤ 241 := by
    cases h : vocOkB ss en with
    | false => rw [trie_none h]; simp
    | true => exact (trie_len h).2
  have HSM := Lib.hid (trie_small (ss := ss) (en := en))
  have HTY := Lib.hid (trie_tiny (ss := ss) (en := en))
  have HSPEC := Lib.hid (fun (A : Option Addr) (cp : Nat) (X : World) (h : Row X A (strs ss)) => specMake_any A cp ss en X h hlen)
  have HIMPL := Lib.hid (fun (A : Option Addr) (cp : Nat) (X : World) (h : Row X A (strs ss)) => implMake_any A cp ss en X h hlen)
  unfold MakePost at HSPEC HIMPL
  obtain ⟨L, hLL⟩ : ∃ L, L = trieOf ss en := ⟨_, rfl⟩
  rw [← hLL] at hL241 HSM HTY HSPEC HIMPL
  clear hLL
  go_wp2_with fail
  refine (toVoc_any a c ss en _ (HR.out.keep hb1) hlen).mono ?_
  rintro e w2 ⟨g, rfl, hg, hown, hb⟩
  have hb2 : Below w.heap.size w w2 := hb1.trans (hb.mono hb1.size)
  replace h0 := cell_keep hb h0
  replace h1 := cell_keep hb h1
  clear hb hb1 hg
  go_wp2_with fail
  refine (HSPEC.out _ _ _ hown.row).mono ?_
  rintro e w4 ⟨A4, cap4, vl4, ys4, rfl, hF4, hb⟩
  have hb4 : Below w.heap.size w w4 := hb2.trans (hb.mono hb2.size)
  replace h0 := cell_keep hb h0
  replace h1 := cell_keep hb h1
  have hsz4 : w.heap.size < w4.heap.size := cell_lt h0
  have HU4 := Lib.hid (fun k (hk : Foot (.slice A4 L.length cap4) L.length vl4 k) => (hF4.foot hk).2)
  clear hb hb2 hown
  go_wp2_with fail
  refine (toVoc_any a c ss en _ (HR.out.keep hb4) hlen).mono ?_
  rintro e w5 ⟨g5, rfl, hg5, ho5, hb⟩
  have hb5 : Below w.heap.size w w5 := hb4.trans (hb.mono hb4.size)
  replace h0 := cell_keep hb h0
  replace h1 := cell_keep hb h1
  replace hF4 := hF4.keep hb
  have hg5x : g5 < w5.heap.size := ho5.lt
  clear hb hb4
  have hx0 := Own.new w5 25 #[.slice (some ⟨g5, 0, none⟩) ss.length ss.length, .int .i64 en]
  have hb5' := hb5.alloc hb5.size (.cells #[.slice (some ⟨g5, 0, none⟩) ss.length ss.length, .int .i64 en] 25)
  replace ho5 := ho5.alloc (.cells #[.slice (some ⟨g5, 0, none⟩) ss.length ss.length, .int .i64 en] 25)
  replace h0 := cell_alloc h0 (.cells #[.slice (some ⟨g5, 0, none⟩) ss.length ss.length, .int .i64 en] 25)
  replace h1 := cell_alloc h1 (.cells #[.slice (some ⟨g5, 0, none⟩) ss.length ss.length, .int .i64 en] 25)
  replace hF4 := hF4.alloc (.cells #[.slice (some ⟨g5, 0, none⟩) ss.length ss.length, .int .i64 en] 25)
  clear hb5
  go_wp2_with fail
  refine (HIMPL.out _ _ _ ho5.row).mono ?_
  rintro e w7 ⟨A7, cap7, vl7, ys7, rfl, hF7, hb⟩
  have hb7 : Below w.heap.size w w7 := hb5'.trans (hb.mono hb5'.size)
  replace h0 := cell_keep hb h0
  replace h1 := cell_keep hb h1
  replace ho5 := ho5.keep hb
  replace hx0 := hx0.keep hb
  replace hF4 := hF4.keep hb
  simp only [World.size_alloc] at hF7
  have HD7 := Lib.hid (fun k (hk : Foot (.slice A7 L.length cap7) L.length vl7 k) => (hF7.foot hk).1)
  clear hb hb5'
  go_wp2_with fail
  refine (eqTS_same _ _ _ _ L _ hF7.nodes hF4.nodes (by omega) HSM.out).mono ?_
  rintro e w8 ⟨rfl, hb⟩
  have hb8 : Below w.heap.size w w8 := hb7.trans (hb.mono hb7.size)
  replace h0 := cell_keep hb h0
  replace h1 := cell_keep hb h1
  replace ho5 := ho5.keep hb
  replace hx0 := hx0.keep hb
  replace hF4 := hF4.keep hb
  replace hF7 := hF7.keep hb
  have x0 : w8.cell? ⟨w5.heap.size, 0, none⟩ = some (.slice (some ⟨g5, 0, none⟩) ss.length ss.length) := by rw [hx0.cell]; rfl
  have x1 : w8.cell? ⟨w5.heap.size, 1, none⟩ = some (.int .i64 en) := by rw [hx0.cell]; rfl
  have hw45 : w4.heap.size ≤ w5.heap.size := by omega
  have hg5w : w4.heap.size ≤ g5 := by omega
  clear hb hb7 hx0 hg5
  generalize w5.heap.size = X at *
  go_wp2
  go_region_held3 (fun W => W.cell? ⟨w.heap.size, 0, none⟩ = some (.slice a ss.length c) ∧ W.cell? ⟨w.heap.size, 1, none⟩ = some (.int .i64 en) ∧ W.cell? ⟨X, 0, none⟩ = some (.slice (some ⟨g5, 0, none⟩) ss.length ss.length) ∧ W.cell? ⟨X, 1, none⟩ = some (.int .i64 en))
    (first | exact ⟨cell_keep hb10 (cell_keep hb9 h0), cell_keep hb10 (cell_keep hb9 h1), cell_keep hb10 (cell_keep hb9 x0), cell_keep hb10 (cell_keep hb9 x1)⟩ | exact ⟨cell_keep hb9 h0, cell_keep hb9 h1, cell_keep hb9 x0, cell_keep hb9 x1⟩ | exact ⟨h0, h1, x0, x1⟩)
    (first | (go_at_call 37; refine (toVoc_any a c ss en _ (HR.out.keep hb8.drew) hlen).mono ?_; rintro e w9 ⟨g9, rfl, hg9, hown9, hb9⟩)
           | (go_at_call 38; refine (eqVoc_same _ _ _ _ ss en _ (ho5.drew.keep hb9).row hown9.row hlen).mono ?_; rintro e w10 ⟨rfl, hb10⟩))
  have hb9' : Below w.heap.size w w9 := hb8.drew.trans (hb9.mono hb8.drew.size)
  have hb10' : Below w.heap.size w w10 := hb9'.trans (hb10.mono hb9'.size)
  replace h0 := cell_keep hb10 (cell_keep hb9 h0)
  replace h1 := cell_keep hb10 (cell_keep hb9 h1)
  replace x0 := cell_keep hb10 (cell_keep hb9 x0)
  replace x1 := cell_keep hb10 (cell_keep hb9 x1)
  replace ho5 := (ho5.drew.keep hb9).keep hb10
  replace hF4 := (hF4.drew.keep hb9).keep hb10
  replace hF7 := (hF7.drew.keep hb9).keep hb10
  clear hb8 hb9 hb9' hb10 hown9 hg9
  go_wp2_with fail
  refine (markVoc_any g5 ss en 1 _ ho5 hlen (by omega) (by omega)).mono ?_
  rintro e w11 ⟨rfl, hg11⟩
  have hb11 : Below w.heap.size w w11 := hb10'.grown hg11 hb10'.size (fun k hk => by injection hk with hk; omega)
  replace h0 := cell_old h0 hg11 (fun k hk => by injection hk with hk; simp; omega)
  replace h1 := cell_old h1 hg11 (fun k hk => by injection hk with hk; simp; omega)
  replace hF4 := hF4.away hg11 (fun k hk hf => by injection hk with hk; have := HU4.out k hf; omega)
  replace hF7 := hF7.away hg11 (fun k hk hf => by injection hk with hk; have := HD7.out k hf; omega)
  have hX11 : X + 1 ≤ w11.heap.size := by have h2 := cell_lt x0; have h3 := hg11.size; simp only at h2; omega
  clear hg11 ho5 x0 x1 hb10'
  go_wp2_with fail
  refine (eqTS_same _ _ _ _ L _ hF7.nodes hF4.nodes (by omega) HSM.out).mono ?_
  rintro e w12 ⟨rfl, hb⟩
  have hb12 : Below w.heap.size w w12 := hb11.trans (hb.mono hb11.size)
  replace h0 := cell_keep hb h0
  replace h1 := cell_keep hb h1
  replace hF4 := hF4.keep hb
  replace hF7 := hF7.keep hb
  have hX12 : X + 1 ≤ w12.heap.size := by have h3 := hb.size; omega
  clear hb hb11
  go_wp2_with fail
  refine (markTS_any (X + 1) A7 cap7 L vl7 ys7 1 _ hF7 HTY.out hL241 (by omega) (by omega)).mono ?_
  rintro e w13 ⟨rfl, ⟨ys13, hF13⟩, hFr13⟩
  have hbX : Below (X + 1) w12 w13 := hFr13.below (fun k hk => HD7.out k hk) hX12
  have hb13 : Below w.heap.size w w13 := hb12.trans (hbX.mono (by omega))
  replace h0 := hFr13.cell h0 (fun q => by have := HD7.out _ q; simp only at this; omega)
  replace h1 := hFr13.cell h1 (fun q => by have := HD7.out _ q; simp only at this; omega)
  replace hF4 := hF4.below hbX (fun k hk => by have := HU4.out k hk; omega)
  have hN13 : Nodes w13 A7 (mkAll L 1) := by
    have h2 := hF13
    rw [← mkAll_length L 1] at h2
    exact h2.nodes
  obtain ⟨m1, m2⟩ := mkLast_le L 1 HTY.out
  generalize hMM : mkLast L 1 = M at *
  have HMM := Lib.hid hMM
  have hq0 : ¬ M < 0 := by omega
  have hq1 : (M != M) = false := by simp
  have HHELD : Hid (∀ X, Nodes X A7 (mkAll L 1) → Calls Try.prog 46 #[.slice A7 L.length cap7, .int .i64 1] X fun e w' => e = .returned (.int .i64 M) ∧ X = w') := Lib.hid (fun X h => by
    have := heldTS_any A7 cap7 L 1 X h HTY.out hL241 (by omega) (by omega)
    rw [HMM.out] at this
    exact this)
  clear hF13 hFr13 hF7 hb12 hbX hMM
  go_wp2_with fail
  refine (HHELD.out _ hN13).mono ?_
  rintro e w14 ⟨rfl, rfl⟩
  go_wp2_with fail
  refine (toVoc_any a c ss en _ (HR.out.keep hb13) hlen).mono ?_
  rintro e w15 ⟨g15, rfl, hg15, ho15, hb⟩
  have hb15 : Below w.heap.size w w15 := hb13.trans (hb.mono hb13.size)
  replace hF4 := hF4.keep hb
  replace hN13 := hN13.keep hb
  clear hb hb13 hg15 h0 h1
  go_wp2_with fail
  refine (HIMPL.out _ _ _ ho15.row).mono ?_
  rintro e w16 ⟨A16, cap16, vl16, ys16, rfl, hF16, hb⟩
  have hb16 : Below w.heap.size w w16 := hb15.trans (hb.mono hb15.size)
  replace hF4 := hF4.keep hb
  replace hN13 := hN13.keep hb
  clear hb hb15 ho15
  go_wp2_with fail
  refine (eqTS_same _ _ _ _ L _ hF16.nodes hF4.nodes (by omega) HSM.out).mono ?_
  rintro e w17 ⟨rfl, hb⟩
  have hb17 : Below w.heap.size w w17 := hb16.trans (hb.mono hb16.size)
  replace hN13 := hN13.keep hb
  clear hb hb16 hF16 hF4
  go_wp2_with fail
  refine (HHELD.out _ hN13).mono ?_
  rintro e w18 ⟨rfl, rfl⟩
  go_wp2
  go_ret
  exact ⟨rfl, hb17⟩

end Go.Proofs.Ytcanhkngikeeiaa
