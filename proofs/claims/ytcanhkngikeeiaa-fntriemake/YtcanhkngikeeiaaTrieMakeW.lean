/- The walk of the law FnTrieMake: it returns true for every code, and writes nothing that was there. -/
import Derived.Test.YtcanhkngikeeiaaX1
import Derived.Test.YtcanhkngikeeiaaVocFirstW
namespace Go.Proofs.Ytcanhkngikeeiaa
open Go.RowKit
set_option linter.unusedVariables false

theorem plain_end {ss : List ByteArray} {en : Int} {k : Nat} (hk : k < ss.length) : (plainB ss en k = true → begB ss en (pieceAt ss k) k = true) ∧ ((k : Int) ∈ begIds ss en (pieceAt ss k) ss.length ↔ plainB ss en k = true) := by
  have h1 : plainB ss en k = true → begB ss en (pieceAt ss k) k = true := fun h => by
    unfold begB
    rw [h, Bool.true_and, fits_iff]
    exact List.prefix_rfl
  refine ⟨h1, ?_⟩
  rw [mem_begIds]
  constructor
  · rintro ⟨i, _, h2, _, e⟩
    obtain rfl : k = i := by omega
    unfold begB at h2
    rw [Bool.and_eq_true] at h2
    exact h2.1
  · intro h
    exact ⟨k, hk, h1 h, rfl, rfl⟩
theorem plain_parts {ss : List ByteArray} {en : Int} {k : Nat} : (plainB ss en k = true ∧ ((k : Int) != en) = true ∧ 0 < (pieceAt ss k).size) ∨ (plainB ss en k = false ∧ ((k : Int) != en) = false) ∨ (plainB ss en k = false ∧ ((k : Int) != en) = true ∧ ¬ 0 < (pieceAt ss k).size) := by
  unfold plainB
  cases q : ((k : Int) != en) with
  | false => right; left; exact ⟨rfl, rfl⟩
  | true =>
    by_cases h : 0 < (pieceAt ss k).size
    · left; simp [h]
    · right; right; simp [h]
/-- Whether a number is among the first of some. -/
def amongB (zs : List Int) (x : Int) (q : Nat) : Bool := (zs.take q).any (fun z => z == x)
theorem among_succ {zs : List Int} {x : Int} {q : Nat} (h : q < zs.length) : amongB zs x (q + 1) = (amongB zs x q || (zs[q] == x)) := by
  unfold amongB
  rw [List.take_succ_eq_append_getElem h, List.any_append]
  simp
theorem among_all {zs : List Int} {x : Int} : amongB zs x zs.length = true ↔ x ∈ zs := by
  unfold amongB
  rw [List.take_of_length_le (Nat.le_refl _), List.any_eq_true]
  constructor
  · rintro ⟨z, hz, e⟩; simp at e; subst e; exact hz
  · intro h; exact ⟨x, h, by simp⟩

set_option maxRecDepth 100000 in
set_option maxHeartbeats 2000000 in
theorem trieMake_walk (C : Option Addr) (ccap : Nat) (zs : List Int) (w : World) (hrow : Row w C (byts zs)) (hz : zs.length ≤ maxLen) (hcap : zs.length ≤ ccap) (hzs : ∀ z ∈ zs, 0 ≤ z ∧ z ≤ 255) :
    Calls Try.prog 8 #[.slice C zs.length ccap] w (True_ w) := by
  have HR := Lib.hid hrow
  have HZ := Lib.hid hzs
  clear hrow hzs
  unfold maxLen at hz
  by_cases hbig : 1048576 < zs.length
  · have hbig' : (1048576 : Int) < (zs.length : Int) := by omega
    go_enter Try.func8, Try.ntmps8
    go_wp2
    go_ret
    exact ⟨rfl, Below.refl _ _⟩
  have hbig' : ¬ (1048576 : Int) < (zs.length : Int) := by omega
  go_enter Try.func8, Try.ntmps8
  go_wp2_with fail
  refine (drawTrie_any C ccap zs _ HR.out (by omega) hcap HZ.out).mono ?_
  rintro e w1 ⟨ss, en, A, cap, rfl, hl, hs, he0, he1, hp, hb1⟩
  have hv1 := Own.new w1 25 #[.slice A ss.length cap, .int .i64 en]
  have HL : TL w w1.heap.size en ss A cap (w1.alloc (.cells #[.slice A ss.length cap, .int .i64 en] 25)) := ⟨hv1, (own_row hp).alloc _, hb1.alloc hb1.size _⟩
  clear hv1 hp hb1 hs
  go_wp2_with fail
  refine (specMake_any A cap ss en _ HL.p (by omega)).mono ?_
  rintro e w3 ⟨A3, c3, vl3, ys3, rfl, hF3, hb3⟩
  have HN3 := hF3.nodes
  replace HL := HL.keep hb3
  generalize w1.heap.size = V at HL ⊢
  clear hF3 hb3
  have c0 := HL.c0
  have c1 := HL.c1
  go_wp2_with fail
  refine (implMake_any A cap ss en _ HL.p (by omega)).mono ?_
  rintro e w2 ⟨A2, c2, vl2, ys2, rfl, hF2, hb2⟩
  have HN2 := hF2.nodes
  replace HN3 := HN3.keep hb2
  replace HL := HL.keep hb2
  clear hF2 hb2 c0 c1
  have hlen : (trieOf ss en).length ≤ 241 := by
    cases h : vocOkB ss en with
    | false => rw [trie_none h]; simp
    | true => exact (trie_len h).2
  go_wp2_with fail
  refine (lfTrie_same A2 A3 c2 c3 (trieOf ss en) _ HN2 HN3 (by omega) trie_small).mono ?_
  rintro e w4 ⟨rfl, hb4⟩
  replace HN2 := HN2.keep hb4
  replace HN3 := HN3.keep hb4
  replace HL := HL.keep hb4
  clear hb4
  have c0 := HL.c0
  have c1 := HL.c1
  cases hB : vocOkB ss en
  · have hT := trie_none hB
    have HT := Lib.hid hT
    rw [hT] at HN2 HN3 ⊢
    simp only [List.length_nil]
    clear hB hT hlen
    go_wp2_with fail
    refine (lfTrie_same A2 A3 c2 c3 [] _ HN2 HN3 (by simp) (fun n hn => by cases hn)).mono ?_
    rintro e w6 ⟨rfl, hb6⟩
    replace HL := HL.keep hb6
    go_wp2
    go_ret
    exact ⟨rfl, HL.b⟩
  · obtain ⟨h1, h2⟩ := trie_len hB
    obtain ⟨_, hs40, _, _, _⟩ := vocOk_parts hB
    have hne : (((trieOf ss en).length : Int) == 0) = false := by rw [beq_eq_false_iff_ne]; omega
    have HSM := Lib.hid (trie_small (ss := ss) (en := en))
    have HFIND := Lib.hid (fun u => trie_find hB u)
    obtain ⟨L, hL⟩ : ∃ L, L = trieOf ss en := ⟨_, rfl⟩
    rw [← hL] at HSM HN2 hne h1 h2 hlen HFIND ⊢
    have hs6 : ∀ k, (pieceAt ss k).size ≤ 1048576 := fun k => by
      have hz6 := (vocOk_parts hB).2.2.2.2
      rcases Nat.lt_or_ge k ss.length with h | h
      · have := hz6 _ (List.getElem_mem h); rw [pieceAt_eq h]; omega
      · unfold pieceAt; simp [h]
    have HS6 := Lib.hid hs6
    have HN := Lib.hid HN2
    have HLL := Lib.hid HL
    clear hB HN3 hL hs6 HN2 HL
    go_wp2
    go_loopw [6, 7, 8, 9] (fun i x y z wr => ∃ k : Nat, k ≤ ss.length ∧ i = .int .i64 k ∧ Below w4.heap.size w4 wr) (fun i _ _ _ _ => ss.length - (intOf i).toNat)
    case atStart => exact ⟨0, Nat.zero_le _, rfl, Below.refl _ _⟩
    case round =>
      clear c0 c1
      obtain ⟨k, hk, rfl, hb⟩ := hrel
      have HL := HLL.out.keep hb
      have HN2 := HN.out.keep hb
      have c0 := HL.c0
      have c1 := HL.c1
      by_cases hlt : k < ss.length
      · have hlt' : (k : Int) < (ss.length : Int) := by omega
        obtain ⟨pb, po, rfl, hcp⟩ := HL.p.piece hlt
        have hcall := implFind_any A2 c2 L (pieceAt ss k) wr HN2 (by omega) HSM.out (HS6.out k)
        have hpe := plain_end (en := en) hlt
        rcases HFIND.out (pieceAt ss k) with ⟨q1, q2, q3⟩ | ⟨j, hj, q1, q2, q3⟩
        · rw [q1] at hcall
          have HC := Lib.hid hcall
          have hnp : plainB ss en k = false := by
            cases h : plainB ss en k with
            | false => rfl
            | true => exact absurd ⟨k, hlt, hpe.1 h⟩ q3
          have hpp := plain_parts (ss := ss) (en := en) (k := k)
          rw [hnp] at hpp
          clear hcall hpe q1 q2 q3 hnp
          go_wp2_with fail
          refine HC.out.mono ?_
          rintro e w5 ⟨rfl, hb5⟩
          have HL5 := HL.keep hb5
          have hb' := hb.trans (hb5.mono hb.size)
          have HB' := Lib.hid hb'
          have d0 := HL5.c0
          have d1 := HL5.c1
          have hcp5 := cell_keep hb5 hcp
          clear hb5 hb' c0 c1 hcp HN2
          go_wp2
          refine wp_loop_rounds 1 ?_
          rw [rounds_succ]
          rcases hpp with ⟨h, _⟩ | ⟨_, h⟩ | ⟨_, h, h'⟩
          · cases h
          · go_wp2
            go_roundw
            case rel => exact ⟨k + 1, by omega, by go_num, HB'.out⟩
            case measure => simp [intOf]; omega
          · have h'' : ¬ (0 : Int) < ((pieceAt ss k).size : Int) := by omega
            go_wp2
            go_roundw
            case rel => exact ⟨k + 1, by omega, by go_num, HB'.out⟩
            case measure => simp [intOf]; omega
        · rw [q1] at hcall
          have HC := Lib.hid hcall
          have hfin : amongB L[j].ids (k : Int) L[j].ids.length = plainB ss en k := by
            rw [Bool.eq_iff_iff, among_all, q2]; exact hpe.2
          have HFIN := Lib.hid hfin
          have hil := (HSM.out _ (List.getElem_mem hj)).2
          clear hcall hpe q1 q2 q3 hfin
          go_wp2_with fail
          refine HC.out.mono ?_
          rintro e w5 ⟨rfl, hb5⟩
          have HL5 := HL.keep hb5
          have hb' := hb.trans (hb5.mono hb.size)
          have HB' := Lib.hid hb'
          have d0 := HL5.c0
          have d1 := HL5.c1
          have hcp5 := cell_keep hb5 hcp
          obtain ⟨nb, no, rfl, KK, kc, JJ, jc, hn⟩ := (HN2.keep hb5).at_ hj
          have n2 := hn.c2
          have HJR := Lib.hid hn.j
          have hjz : (j : Int) < (L.length : Int) := by omega
          have hj0 : (0 : Int) ≤ (j : Int) := by omega
          generalize L[j].ids = zs at *
          clear hb5 hb' c0 c1 hcp HN2 hn HC
          go_wp2
          go_loopw [8, 9] (fun x i wr => ∃ q : Nat, q ≤ zs.length ∧ i = .int .i64 q ∧ x = .bool (amongB zs k q) ∧ w5 = wr) (fun _ i _ => zs.length - (intOf i).toNat)
          case atStart => exact ⟨0, Nat.zero_le _, rfl, rfl, rfl⟩
          case round =>
            obtain ⟨q, hq, rfl, rfl, rfl⟩ := hrel
            by_cases hqt : q < zs.length
            · have hqt' : (q : Int) < (zs.length : Int) := by omega
              obtain ⟨jb, jo, rfl, hcj⟩ := HJR.out.int hqt
              have HSU := Lib.hid (among_succ (x := (k : Int)) hqt)
              generalize zs[q] = zq at *
              cases hF : amongB zs k q
              · cases hE : (zq == (k : Int))
                · have HFE := Lib.hid (And.intro hF hE)
                  have hE' : ¬ zq = (k : Int) := by simpa using hE
                  clear hF
                  go_wp2
                  go_roundw
                  case rel => exact ⟨q + 1, by omega, by go_num, by rw [HSU.out, HFE.out.1, HFE.out.2]; rfl, trivial⟩
                  case measure => simp [intOf]; omega
                · have HFE := Lib.hid (And.intro hF hE)
                  clear hF
                  go_wp2
                  go_roundw
                  case rel => exact ⟨q + 1, by omega, by go_num, by rw [HSU.out, HFE.out.1, HFE.out.2]; rfl, trivial⟩
                  case measure => simp [intOf]; omega
              · have HFE := Lib.hid hF
                clear hF
                go_wp2
                go_roundw
                case rel => exact ⟨q + 1, by omega, by go_num, by rw [HSU.out, HFE.out]; rfl, trivial⟩
                case measure => simp [intOf]; omega
            · have hqt' : ¬ (q : Int) < (zs.length : Int) := by omega
              obtain rfl : q = zs.length := by omega
              rw [HFIN.out]
              rcases plain_parts (ss := ss) (en := en) (k := k) with ⟨hP, h, h'⟩ | ⟨hP, h⟩ | ⟨hP, h, h'⟩
              · have h'' : (0 : Int) < ((pieceAt ss k).size : Int) := by omega
                rw [hP]
                clear hP
                go_wp2
                go_roundw
                case rel => exact ⟨k + 1, by omega, by go_num, HB'.out⟩
                case measure => simp [intOf]; omega
              · rw [hP]
                clear hP
                go_wp2
                go_roundw
                case rel => exact ⟨k + 1, by omega, by go_num, HB'.out⟩
                case measure => simp [intOf]; omega
              · have h'' : ¬ (0 : Int) < ((pieceAt ss k).size : Int) := by omega
                rw [hP]
                clear hP
                go_wp2
                go_roundw
                case rel => exact ⟨k + 1, by omega, by go_num, HB'.out⟩
                case measure => simp [intOf]; omega
      · have hlt' : ¬ (k : Int) < (ss.length : Int) := by omega
        go_wp2
        go_ret
        exact ⟨rfl, HL.b⟩

end Go.Proofs.Ytcanhkngikeeiaa
