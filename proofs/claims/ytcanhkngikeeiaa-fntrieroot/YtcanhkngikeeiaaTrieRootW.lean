/- The walk of the law FnTrieRoot: it returns true for every code, and writes nothing that was there. -/
import Derived.Test.YtcanhkngikeeiaaV9
import Derived.Test.YtcanhkngikeeiaaVocFirstW
namespace Go.Proofs.Ytcanhkngikeeiaa
open Go.RowKit
set_option linter.unusedVariables false

set_option maxRecDepth 100000 in
set_option maxHeartbeats 2000000 in
theorem trieRoot_walk (C : Option Addr) (ccap : Nat) (zs : List Int) (w : World) (hrow : Row w C (byts zs)) (hz : zs.length ≤ maxLen) (hcap : zs.length ≤ ccap) (hzs : ∀ z ∈ zs, 0 ≤ z ∧ z ≤ 255) :
    Calls Try.prog 13 #[.slice C zs.length ccap] w (True_ w) := by
  have HR := Lib.hid hrow
  have HZ := Lib.hid hzs
  clear hrow hzs
  unfold maxLen at hz
  by_cases hbig : 1048576 < zs.length
  · have hbig' : (1048576 : Int) < (zs.length : Int) := by omega
    go_enter Try.func13, Try.ntmps13
    go_wp2
    go_ret
    exact ⟨rfl, Below.refl _ _⟩
  have hbig' : ¬ (1048576 : Int) < (zs.length : Int) := by omega
  go_enter Try.func13, Try.ntmps13
  go_wp2_with fail
  refine (drawTrie_any C ccap zs _ HR.out (by omega) hcap HZ.out).mono ?_
  rintro e w1 ⟨ss, en, A, cap, rfl, hl, hs, he0, he1, hp, hb1⟩
  have hv1 := Own.new w1 25 #[.slice A ss.length cap, .int .i64 en]
  have HL : TL w w1.heap.size en ss A cap (w1.alloc (.cells #[.slice A ss.length cap, .int .i64 en] 25)) := ⟨hv1, (own_row hp).alloc _, hb1.alloc hb1.size _⟩
  clear hv1 hp hb1 hs
  go_wp2_with fail
  refine (implMake_any A cap ss en _ HL.p (by omega)).mono ?_
  rintro e w2 ⟨A2, c2, vl2, ys2, rfl, hF2, hb2⟩
  have HN2 := hF2.nodes
  replace HL := HL.keep hb2
  generalize w1.heap.size = V at HL ⊢
  clear hF2 hb2
  have c0 := HL.c0
  have c1 := HL.c1
  go_wp2_with fail
  refine (specMake_any A cap ss en _ HL.p (by omega)).mono ?_
  rintro e w3 ⟨A3, c3, vl3, ys3, rfl, hF3, hb3⟩
  have HN3 := hF3.nodes
  replace HN2 := HN2.keep hb3
  replace HL := HL.keep hb3
  clear hF3 hb3 c0 c1
  have hlen : (trieOf ss en).length ≤ 1048576 := by
    cases h : vocOkB ss en with
    | false => rw [trie_none h]; simp
    | true => have := (trie_len h).2; omega
  go_wp2_with fail
  refine (lfTrie_same A2 A3 c2 c3 (trieOf ss en) _ HN2 HN3 hlen trie_small).mono ?_
  rintro e w4 ⟨rfl, hb4⟩
  replace HN2 := HN2.keep hb4
  replace HL := HL.keep hb4
  clear HN3 hb4
  have c0 := HL.c0
  have c1 := HL.c1
  cases hB : vocOkB ss en
  · have hT := trie_none hB
    have HT := Lib.hid hT
    rw [hT]
    simp only [List.length_nil]
    clear hB hT hlen
    go_wp2_with fail
    refine (specMake_any A cap ss en _ HL.p (by omega)).mono ?_
    rintro e w5 ⟨A5, c5, vl5, ys5, rfl, hF5, hb5⟩
    have HN5 := hF5.nodes
    replace HN2 := HN2.keep hb5
    replace HL := HL.keep hb5
    clear hF5 hb5 c0 c1
    rw [HT.out] at HN2 HN5 ⊢
    go_wp2_with fail
    refine (lfTrie_same A2 A5 c2 c5 [] _ HN2 HN5 (by simp) (fun n hn => by cases hn)).mono ?_
    rintro e w6 ⟨rfl, hb6⟩
    replace HL := HL.keep hb6
    go_wp2
    go_ret
    exact ⟨rfl, HL.b⟩
  · obtain ⟨h1, h2⟩ := trie_len hB
    obtain ⟨r1, r2⟩ := trie_root hB (by omega)
    obtain ⟨b, off, rfl, K, kc, J, jc, hn⟩ := HN2.at_ (i := 0) (by omega)
    have n0 := hn.c0
    have n2 := hn.c2
    rw [r1] at n0
    rw [r2] at n2
    simp only [List.length_nil, Nat.zero_mul, Nat.add_zero] at n0 n2
    have hfind : findR (trieOf ss en) ⟨#[]⟩ = 0 := by unfold findR; rw [trie_tree hB]; rfl
    have hcall := implFind_any (some ⟨b, off, none⟩) c2 (trieOf ss en) ⟨#[]⟩ w4 HN2 hlen trie_small (by decide)
    rw [hfind] at hcall
    have HC := Lib.hid hcall
    have hne : (((trieOf ss en).length : Int) == 0) = false := by rw [beq_eq_false_iff_ne]; omega
    have hgt : (0 : Int) < ((trieOf ss en).length : Int) := by omega
    clear hcall hfind hn r1 r2
    go_wp2_with fail
    refine HC.out.mono ?_
    rintro e w5 ⟨rfl, hb5⟩
    replace HL := HL.keep hb5
    go_wp2
    go_ret
    exact ⟨rfl, HL.b⟩

end Go.Proofs.Ytcanhkngikeeiaa
