/- Equal nodes: eqTrie, eqTrieS. -/
import Derived.Test.YtcanhkngikeeiaaN2
namespace Go.Proofs.Ytcanhkngikeeiaa
open Go.RowKit
set_option linter.unusedVariables false

set_option maxRecDepth 100000 in
set_option maxHeartbeats 1000000 in
theorem eqT_same (n : Node) (K J K' J' : Option Addr) (kc jc kc' jc' : Nat) (w : World) (hk : Row w K (ints n.kids)) (hj : Row w J (ints n.ids)) (hk' : Row w K' (ints n.kids)) (hj' : Row w J' (ints n.ids)) (h1 : n.kids.length ≤ 1048576) (h2 : n.ids.length ≤ 1048576) :
    Calls Try.prog 74 #[.agg #[.int .i64 n.byte, .slice K n.kids.length kc, .slice J n.ids.length jc], .agg #[.int .i64 n.byte, .slice K' n.kids.length kc', .slice J' n.ids.length jc']] w fun e w' => e = .returned (.bool true) ∧ Below w.heap.size w w' := by
  have HK := Lib.hid hk
  have HJ := Lib.hid hj
  have HK' := Lib.hid hk'
  have HJ' := Lib.hid hj'
  clear hk hj hk' hj'
  have hne : (n.byte != n.byte) = false := by simp
  go_enter Try.func74, Try.ntmps74
  go_wp2_with fail
  have bel := (below_box (w := w) (.cells #[.int .i64 n.byte, .slice K n.kids.length kc, .slice J n.ids.length jc] 46)).alloc (by simp) (.cells #[.int .i64 n.byte, .slice K' n.kids.length kc', .slice J' n.ids.length jc'] 46)
  have oA := (Own.new w 46 #[.int .i64 n.byte, .slice K n.kids.length kc, .slice J n.ids.length jc]).alloc (.cells #[.int .i64 n.byte, .slice K' n.kids.length kc', .slice J' n.ids.length jc'] 46)
  have oB := Own.new (w.alloc (.cells #[.int .i64 n.byte, .slice K n.kids.length kc, .slice J n.ids.length jc] 46)) 46 #[.int .i64 n.byte, .slice K' n.kids.length kc', .slice J' n.ids.length jc']
  simp at oB
  refine (eqIntS_same K K' kc kc' n.kids _ (HK.out.keep bel) (HK'.out.keep bel) h1).mono ?_
  rintro e w1 ⟨rfl, hb⟩
  have bel1 : Below w.heap.size w w1 := bel.trans (hb.mono bel.size)
  have a1 := oA.keep hb
  have b1 := oB.keep hb
  have x2 : w1.cell? ⟨w.heap.size, 2, none⟩ = some (.slice J n.ids.length jc) := by rw [a1.cell]; rfl
  have y2 : w1.cell? ⟨w.heap.size + 1, 2, none⟩ = some (.slice J' n.ids.length jc') := by rw [b1.cell]; rfl
  clear oA oB hb bel a1 b1
  go_wp2_with fail
  refine (eqIntS_same J J' jc jc' n.ids _ (HJ.out.keep bel1) (HJ'.out.keep bel1) h2).mono ?_
  rintro e w2 ⟨rfl, hb⟩
  go_wp2
  go_ret
  exact ⟨rfl, bel1.trans (hb.mono bel1.size)⟩

set_option maxRecDepth 100000 in
set_option maxHeartbeats 1000000 in
theorem eqTS_same (a a' : Option Addr) (c c' : Nat) (ns : List Node) (w : World) (hr : Nodes w a ns) (hr' : Nodes w a' ns) (hm : ns.length ≤ 1048576) (hs : Small ns) :
    Calls Try.prog 44 #[.slice a ns.length c, .slice a' ns.length c'] w fun e w' => e = .returned (.bool true) ∧ Below w.heap.size w w' := by
  have HR := Lib.hid hr
  have HR' := Lib.hid hr'
  have HS := Lib.hid hs
  clear hr hr' hs
  have hne : ((ns.length : Int) != (ns.length : Int)) = false := by simp
  go_enter Try.func44, Try.ntmps44
  go_wp2
  go_loopw [5] (fun i wr => ∃ k : Nat, k ≤ ns.length ∧ i = .int .i64 k ∧ Below w.heap.size w wr) (fun i _ => ns.length - (intOf i).toNat)
  case atStart => exact ⟨0, Nat.zero_le _, rfl, Below.refl _ _⟩
  case round =>
    obtain ⟨k, hk, rfl, hb⟩ := hrel
    by_cases hlt : k < ns.length
    · obtain ⟨b, off, rfl, K, kc, J, jc, hn⟩ := (HR.out.keep hb).at_ hlt
      obtain ⟨b', off', rfl, K', kc', J', jc', hn'⟩ := (HR'.out.keep hb).at_ hlt
      have hlt' : (k : Int) < (ns.length : Int) := by omega
      obtain ⟨hz1, hz2⟩ := HS.out _ (List.getElem_mem hlt)
      have c0 := hn.c0
      have c1 := hn.c1
      have c2 := hn.c2
      have d0 := hn'.c0
      have d1 := hn'.c1
      have d2 := hn'.c2
      generalize hnk : ns[k] = nk at *
      clear hnk
      go_wp2
      go_region_held3 (fun X => X.cell? ⟨b, off + k * 3, none⟩ = some (.int .i64 nk.byte) ∧ X.cell? ⟨b, off + k * 3 + 1, none⟩ = some (.slice K nk.kids.length kc) ∧ X.cell? ⟨b, off + k * 3 + 2, none⟩ = some (.slice J nk.ids.length jc) ∧ X.cell? ⟨b', off' + k * 3, none⟩ = some (.int .i64 nk.byte) ∧ X.cell? ⟨b', off' + k * 3 + 1, none⟩ = some (.slice K' nk.kids.length kc') ∧ X.cell? ⟨b', off' + k * 3 + 2, none⟩ = some (.slice J' nk.ids.length jc'))
        (first | exact ⟨cell_keep hb2 c0, cell_keep hb2 c1, cell_keep hb2 c2, cell_keep hb2 d0, cell_keep hb2 d1, cell_keep hb2 d2⟩ | exact ⟨c0, c1, c2, d0, d1, d2⟩)
        (first | (go_at_call 74; refine (eqT_same nk K J K' J' kc jc kc' jc' _ hn.k.drew hn.j.drew hn'.k.drew hn'.j.drew hz1 hz2).mono ?_; rintro e w2 ⟨rfl, hb2⟩))
      have hb' : Below w.heap.size w w2 := hb.drew.trans (hb2.mono hb.drew.size)
      clear hb2 hn hn' c0 c1 c2 d0 d1 d2 hb
      go_wp2
      go_roundw
      case rel => exact ⟨k + 1, by omega, by go_num, hb'⟩
      case measure => simp [intOf]; omega
    · have hlt' : ¬ (k : Int) < (ns.length : Int) := by omega
      go_wp2
      go_ret
      exact ⟨rfl, hb⟩

end Go.Proofs.Ytcanhkngikeeiaa
