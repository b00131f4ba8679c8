/- The walk of the law FnExactTrieFind: it returns true for every nodes and every text, and writes nothing that was there. -/
import Derived.Test.YtcanhkngikeeiaaN9
namespace Go.Proofs.Ytcanhkngikeeiaa
open Go.RowKit
set_option linter.unusedVariables false

set_option maxRecDepth 100000 in
set_option maxHeartbeats 2000000 in
theorem exactTrieFind_walk (a : Option Addr) (c : Nat) (ns : List Node) (t : ByteArray) (w : World) (hr : Nodes w a ns) (hm : ns.length ≤ maxLen) (hs : ∀ n ∈ ns, n.kids.length ≤ maxLen ∧ n.ids.length ≤ maxLen) (ht : t.size ≤ maxLen) :
    Calls Try.prog 18 #[.slice a ns.length c, .string t] w (True_ w) := by
  have HR := Lib.hid hr
  have HS := Lib.hid hs
  clear hr hs
  unfold maxLen at ht
  by_cases hbig : 1048576 < t.size
  · have hbig' : (1048576 : Int) < (t.size : Int) := by omega
    go_enter Try.func18, Try.ntmps18
    go_wp2
    go_ret
    exact ⟨rfl, Below.refl _ _⟩
  have hbig' : ¬ (1048576 : Int) < (t.size : Int) := by omega
  have ht2 : t.size ≤ 1048576 := by omega
  go_enter Try.func18, Try.ntmps18
  go_wp2_with fail
  refine (szTS_any a c ns 1048576 _ HR.out hm HS.out (by omega) (by omega)).mono ?_
  rintro e w1 ⟨r, rfl, hz, hb1⟩
  by_cases hn : r < 0
  · go_wp2
    go_ret
    exact ⟨rfl, hb1⟩
  obtain ⟨hr0, hlen, hsm⟩ : 0 ≤ r ∧ ns.length ≤ 1048576 ∧ Small ns := by
    rcases hz with h | h
    · exact absurd h hn
    · exact h
  have HSM := Lib.hid hsm
  clear hz hsm
  go_wp2_with fail
  refine (toTS_any a c ns _ (HR.out.keep hb1) hlen HSM.out).mono ?_
  rintro e w2 ⟨g2, rfl, hg2, hn2, hb⟩
  have hb2 : Below w.heap.size w w2 := hb1.trans (hb.mono hb1.size)
  clear hb
  go_wp2_with fail
  refine (specFind_any _ _ ns t _ hn2 hlen HSM.out ht2).mono ?_
  rintro e w3 ⟨rfl, hb⟩
  have hb3 : Below w.heap.size w w3 := hb2.trans (hb.mono hb2.size)
  clear hb hn2
  go_wp2_with fail
  refine (toTS_any a c ns _ (HR.out.keep hb3) hlen HSM.out).mono ?_
  rintro e w4 ⟨g4, rfl, hg4, hn4, hb⟩
  have hb4 : Below w.heap.size w w4 := hb3.trans (hb.mono hb3.size)
  clear hb
  go_wp2_with fail
  refine (implFind_any _ _ ns t _ hn4 hlen HSM.out ht2).mono ?_
  rintro e w5 ⟨rfl, hb⟩
  have hb5 : Below w.heap.size w w5 := hb4.trans (hb.mono hb4.size)
  have hn5 := hn4.keep hb
  clear hb hn4
  have hne : (findR ns t != findR ns t) = false := by simp
  go_wp2_with fail
  refine (toTS_any a c ns _ (HR.out.keep hb5) hlen HSM.out).mono ?_
  rintro e w6 ⟨g6, rfl, hg6, hn6, hb⟩
  have hb6 : Below w.heap.size w w6 := hb5.trans (hb.mono hb5.size)
  have hn7 := hn5.keep hb
  clear hb hn5
  go_wp2_with fail
  refine (eqTS_same _ _ _ _ ns _ hn7 hn6 hlen HSM.out).mono ?_
  rintro e w7 ⟨rfl, hb⟩
  go_wp2
  go_ret
  exact ⟨rfl, hb6.trans (hb.mono hb6.size)⟩

end Go.Proofs.Ytcanhkngikeeiaa
