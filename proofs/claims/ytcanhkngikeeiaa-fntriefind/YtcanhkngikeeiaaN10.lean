/- Equal nodes: lfTrie. -/
import Derived.Test.YtcanhkngikeeiaaN3
namespace Go.Proofs.Ytcanhkngikeeiaa
open Go.RowKit
set_option linter.unusedVariables false

set_option maxRecDepth 100000 in
set_option maxHeartbeats 2000000 in
theorem lfTrie_same (a a' : Option Addr) (c c' : Nat) (ns : List Node) (w : World) (hr : Nodes w a ns) (hr' : Nodes w a' ns) (hm : ns.length ≤ 1048576) (hs : Small ns) :
    Calls Try.prog 32 #[.slice a ns.length c, .slice a' ns.length c'] w fun e w' => e = .returned (.bool true) ∧ Below w.heap.size w w' := by
  have HR := Lib.hid hr
  have HR' := Lib.hid hr'
  have HS := Lib.hid hs
  clear hr hr' hs
  have hne : ((ns.length : Int) != (ns.length : Int)) = false := by simp
  go_enter Try.func32, Try.ntmps32
  go_wp2
  go_loopw [5] (fun i wr => ∃ k : Nat, k ≤ ns.length ∧ i = .int .i64 k ∧ Below w.heap.size w wr) (fun i _ => ns.length - (intOf i).toNat)
  case atStart => exact ⟨0, Nat.zero_le _, rfl, Below.refl _ _⟩
  case round =>
    obtain ⟨k, hk, rfl, hb⟩ := hrel
    by_cases hlt : k < ns.length
    · obtain ⟨b, off, rfl, K, kc, J, jc, hn⟩ := (HR.out.keep hb).at_ hlt
      obtain ⟨b', off', rfl, K', kc', J', jc', hn'⟩ := (HR'.out.keep hb).at_ hlt
      have hlt' : (k : Int) < (ns.length : Int) := by omega
      obtain ⟨hz1, hz2⟩ := HS.out _ (List.getElem_mem hlt)
      have c0 := hn.c0
      have c1 := hn.c1
      have c2 := hn.c2
      have d0 := hn'.c0
      have d1 := hn'.c1
      have d2 := hn'.c2
      generalize hnk : ns[k] = nk at *
      clear hnk
      have hbn : (nk.byte != nk.byte) = false := by simp
      go_wp2
      go_region_held3 (fun X => X.cell? ⟨b, off + k * 3, none⟩ = some (.int .i64 nk.byte) ∧ X.cell? ⟨b, off + k * 3 + 1, none⟩ = some (.slice K nk.kids.length kc) ∧ X.cell? ⟨b, off + k * 3 + 2, none⟩ = some (.slice J nk.ids.length jc) ∧ X.cell? ⟨b', off' + k * 3, none⟩ = some (.int .i64 nk.byte) ∧ X.cell? ⟨b', off' + k * 3 + 1, none⟩ = some (.slice K' nk.kids.length kc') ∧ X.cell? ⟨b', off' + k * 3 + 2, none⟩ = some (.slice J' nk.ids.length jc'))
        (first | exact ⟨cell_keep hb3 (cell_keep hb2 c0), cell_keep hb3 (cell_keep hb2 c1), cell_keep hb3 (cell_keep hb2 c2), cell_keep hb3 (cell_keep hb2 d0), cell_keep hb3 (cell_keep hb2 d1), cell_keep hb3 (cell_keep hb2 d2)⟩ | exact ⟨cell_keep hb2 c0, cell_keep hb2 c1, cell_keep hb2 c2, cell_keep hb2 d0, cell_keep hb2 d1, cell_keep hb2 d2⟩ | exact ⟨c0, c1, c2, d0, d1, d2⟩)
        (first | (have hx := hb2; clear hx; go_at_call 27; refine (lfInts_same J J' jc jc' nk.ids _ (hn.j.drew.keep hb2) (hn'.j.drew.keep hb2) hz2).mono ?_; rintro e w3 ⟨rfl, hb3⟩)
               | (go_at_call 27; refine (lfInts_same K K' kc kc' nk.kids _ hn.k.drew hn'.k.drew hz1).mono ?_; rintro e w2 ⟨rfl, hb2⟩))
      have hb' : Below w.heap.size w w2 := hb.drew.trans (hb2.mono hb.drew.size)
      have hb'' : Below w.heap.size w w3 := hb'.trans (hb3.mono hb'.size)
      clear hb2 hb3 hn hn' c0 c1 c2 d0 d1 d2 hb hb'
      go_wp2
      go_roundw
      case rel => exact ⟨k + 1, by omega, by go_num, hb''⟩
      case measure => simp [intOf]; omega
    · have hlt' : ¬ (k : Int) < (ns.length : Int) := by omega
      go_wp2
      go_ret
      exact ⟨rfl, hb⟩

end Go.Proofs.Ytcanhkngikeeiaa
