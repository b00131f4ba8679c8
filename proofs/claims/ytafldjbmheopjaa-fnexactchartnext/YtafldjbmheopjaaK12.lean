/- The least lengths of heads: impl.CfgLeast. -/
import Derived.Test.YtafldjbmheopjaaK11
namespace Go.Proofs.Ytafldjbmheopjaa
open Go.RowKit
set_option linter.unusedVariables false

theorem own_to_row {w : World} {g n base : Nat} {xs : List Value} (h : Own w g 3 xs) (hl : xs.length = n) (hn : n ≤ maxLen) (hb : base ≤ g) : w.ownsRow base 3 1 (.slice (some ⟨g, 0, none⟩) n n) n xs := by
  subst hl
  exact ⟨by simp, .inr ⟨g, xs.length, xs.toArray, rfl, hb, h, Nat.le_refl _, hn, by simp, by simp⟩⟩

set_option maxRecDepth 100000 in
set_option maxHeartbeats 2000000 in
theorem implLeast_any (hd : Int) (ps : List Pd) (a : Option Addr) (c : Nat) (w : World) (hr : Pds w a ps) (hm : ps.length ≤ 1048576) (hs : Small ps) :
    Calls Try.prog 69 #[.agg #[.int .i64 hd, .slice a ps.length c]] w (LeastPost hd ps w) := by
  have HR := Lib.hid hr
  have HS := Lib.hid hs
  clear hr hs
  go_enter Try.func69, Try.ntmps69
  go_wp2_with fail
  refine (implOk_any hd ps a c _ (HR.out.keep (below_box _)) hm HS.out).mono ?_
  rintro e w1 ⟨rfl, hb⟩
  have hb1 : Below w.heap.size w w1 := (below_box _).trans (hb.mono (by simp))
  have k0 : w1.cell? ⟨w.heap.size, 0, none⟩ = some (.int .i64 hd) := cell_keep hb (by simp)
  have k1 : w1.cell? ⟨w.heap.size, 1, none⟩ = some (.slice a ps.length c) := cell_keep hb (by simp)
  have kl := cell_lt k0
  simp only at kl
  clear hb
  cases hok : cfgOkB hd ps
  · have IL : Hid (IsLeast hd ps []) := by show IsLeast hd ps []; unfold IsLeast; rw [if_neg (by simp [hok])]
    go_wp2
    go_ret
    exact ⟨[], none, 0, rfl, World.ownsRow_nil _ _ _ _, IL.out, hb1⟩
  · have hd0 : 0 ≤ hd := by unfold cfgOkB at hok; simp at hok; omega
    obtain ⟨n, rfl⟩ : ∃ n : Nat, hd = n := ⟨hd.toNat, by omega⟩
    obtain ⟨hfit, hp4, hn0, hn2⟩ := ok_fit hok
    have HF := Lib.hid hfit
    have HOK := Lib.hid hok
    clear hfit hok hd0
    have hbA := hb1.alloc hb1.size (.cells #[.int .i64 (-1)] 3)
    have HRP := Lib.hid (repeat_any n w1.heap.size (-1) (w1.alloc (.cells #[.int .i64 (-1)] 3)) (by simp) hn0 hn2)
    go_wp2_with fail
    refine HRP.out.mono ?_
    rintro e w2 ⟨g, rfl, hg, hO, hb2⟩
    have hbB : Below w.heap.size w w2 := hbA.trans (hb2.mono hbA.size)
    have hgw : w.heap.size < g := by simp at hg; omega
    have k0' := cell_keep hb2 (cell_alloc k0 _)
    have k1' := cell_keep hb2 (cell_alloc k1 _)
    have hgl := hO.lt
    have kl2 := cell_lt k1'
    simp only at kl2
    have hO3 := (hO.alloc (.cells #[.slice (some ⟨g, 0, none⟩) n n] 81))
    have hbC : Below w.heap.size w (w2.alloc (.cells #[.slice (some ⟨g, 0, none⟩) n n] 81)) := hbB.alloc hbB.size _
    have hlb : (w2.alloc (.cells #[.slice (some ⟨g, 0, none⟩) n n] 81)).cell? ⟨w2.heap.size, 0, none⟩ = some (.slice (some ⟨g, 0, none⟩) n n) := by simp
    have k1C := cell_alloc k1' (.cells #[.slice (some ⟨g, 0, none⟩) n n] 81)
    have hrow : (w2.alloc (.cells #[.slice (some ⟨g, 0, none⟩) n n] 81)).ownsRow w.heap.size 3 1 (.slice (some ⟨g, 0, none⟩) n n) n (ints (List.replicate n (-1))) := by
      have e : ints (List.replicate n (-1)) = List.replicate n (.int .i64 (-1)) := by simp [ints]
      rw [e]
      exact own_to_row hO3 (by simp) (by unfold maxLen; omega) (by omega)
    have HSE := Lib.hid (settle_any n g n w2.heap.size ps (List.replicate n (-1)) a c w (w2.alloc (.cells #[.slice (some ⟨g, 0, none⟩) n n] 81)) HR.out hbC HF.out hp4 hn0 hn2 hlb (by omega) hbB.size hrow Reach.start)
    clear HRP hbA hb2 hbB hO hO3 hbC hrow k1C hlb
    go_wp2_with fail
    refine HSE.out.mono ?_
    rintro e w4 ⟨rfl, L, hre, hst, ho4, hlb4, hb4⟩
    have hlen := hre.length
    have IL : Hid (IsLeast (n : Int) ps L) := by
      show IsLeast _ _ _
      unfold IsLeast
      rw [if_pos HOK.out]
      exact ⟨by simpa using hre, hst⟩
    have HLN := Lib.hid hlen
    have HO4 := Lib.hid ho4
    clear hre hst HSE hlen ho4
    go_wp2
    go_ret
    exact ⟨L, some ⟨g, 0, none⟩, n, by rw [HLN.out]; rfl, by rw [HLN.out]; exact HO4.out, IL.out, hb4⟩

end Go.Proofs.Ytafldjbmheopjaa
