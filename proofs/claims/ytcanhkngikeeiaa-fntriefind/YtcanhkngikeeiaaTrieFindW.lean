/- The walk of the law FnTrieFind. -/
import Derived.Test.YtcanhkngikeeiaaZ1
import Derived.Test.YtcanhkngikeeiaaX1
namespace Go.Proofs.Ytcanhkngikeeiaa
open Go.RowKit
set_option linter.unusedVariables false

set_option maxHeartbeats 400000 in
theorem lfBegins_of (text p : ByteArray) (b : Bool) (w : World) (ht : text.size ≤ maxLen) (hp : p.size ≤ maxLen) (hb : fitsB text p = b) :
    Calls Try.prog 28 #[.string text, .string p] w fun e w' => e = .returned (.bool b) ∧ w = w' := by
  subst hb
  unfold maxLen at ht hp
  by_cases h : p.size ≤ text.size
  · go_enter Try.func28, Try.ntmps28
    go_wp2
    go_ret
    exact ⟨ret_bool (by simp [fitsB, h]), rfl⟩
  · go_enter Try.func28, Try.ntmps28
    go_wp2
    go_ret
    exact ⟨ret_bool (by simp [fitsB, h]), rfl⟩

/-- What the law's loop has come to after k pieces. -/
def someB (ss : List ByteArray) (en : Int) (u : ByteArray) (k : Nat) (c : Bool) : Prop := c = true ↔ (u.size = 0 ∨ ∃ x, x < k ∧ begB ss en u x = true)
theorem someB_yes {ss : List ByteArray} {en : Int} {u : ByteArray} {k : Nat} (h : someB ss en u k true) : someB ss en u (k + 1) true := by
  unfold someB at *
  refine ⟨fun _ => ?_, fun _ => rfl⟩
  rcases h.1 rfl with q | ⟨x, hx, q⟩
  · exact .inl q
  · exact .inr ⟨x, by omega, q⟩
theorem someB_step {ss : List ByteArray} {en : Int} {u : ByteArray} {k : Nat} (h : someB ss en u k false) : someB ss en u (k + 1) (begB ss en u k) := by
  unfold someB at *
  have h0 : ¬ (u.size = 0 ∨ ∃ x, x < k ∧ begB ss en u x = true) := fun q => by cases h.2 q
  refine ⟨fun q => .inr ⟨k, by omega, q⟩, fun q => ?_⟩
  rcases q with q | ⟨x, hx, q⟩
  · exact absurd (.inl q) h0
  · rcases Nat.lt_or_ge x k with e | e
    · exact absurd (.inr ⟨x, e, q⟩) h0
    · obtain rfl : x = k := by omega
      exact q
theorem begB_end {ss : List ByteArray} {en : Int} {u : ByteArray} {k : Nat} (h : (k : Int) = en) : begB ss en u k = false := by simp [begB, plainB, h]
theorem begB_fits {ss : List ByteArray} {en : Int} {u : ByteArray} {k : Nat} (hk : k < ss.length) (h : (k : Int) ≠ en) (hu : u.size ≠ 0) : begB ss en u k = fitsB ss[k] u := by
  unfold begB plainB
  rw [pieceAt_eq hk]
  cases q : fitsB ss[k] u with
  | false => simp
  | true =>
    have : u.size ≤ ss[k].size := by
      unfold fitsB at q
      simp at q
      exact q.1
    have h2 : ((k : Int) != en) = true := by simpa using h
    rw [h2]
    simp
    omega
theorem someB_end {ss : List ByteArray} {en : Int} {u : ByteArray} {c : Bool} (hv : vocOkB ss en = true) (h : someB ss en u ss.length c) : decide (0 ≤ findR (trieOf ss en) u) = c := by
  unfold someB at h
  rcases trie_find hv u with ⟨q1, q2, q3⟩ | ⟨j, hj, q1, q2, q3⟩
  · rw [q1]
    cases c with
    | false => rfl
    | true => rcases h.1 rfl with e | e
              · exact absurd e q2
              · exact absurd e q3
  · rw [q1]
    cases c with
    | true => simp
    | false => cases h.2 q3
theorem findR_lo {ss : List ByteArray} {en : Int} {u : ByteArray} (hv : vocOkB ss en = true) : -1 ≤ findR (trieOf ss en) u ∧ findR (trieOf ss en) u ≤ 241 := by
  rcases trie_find hv u with ⟨q1, q2, q3⟩ | ⟨j, hj, q1, q2, q3⟩
  · rw [q1]; omega
  · have := (trie_len hv).2
    rw [q1]; omega

set_option maxRecDepth 100000 in
set_option maxHeartbeats 2000000 in
theorem trieFind_walk (C : Option Addr) (ccap : Nat) (zs : List Int) (C2 : Option Addr) (ccap2 : Nat) (zs2 : List Int) (w : World) (hrow : Row w C (byts zs)) (hz : zs.length ≤ maxLen) (hcap : zs.length ≤ ccap) (hzs : ∀ z ∈ zs, 0 ≤ z ∧ z ≤ 255)
    (hrow2 : Row w C2 (byts zs2)) (hz2 : zs2.length ≤ maxLen) (hcap2 : zs2.length ≤ ccap2) (hzs2 : ∀ z ∈ zs2, 0 ≤ z ∧ z ≤ 255) :
    Calls Try.prog 9 #[.slice C zs.length ccap, .slice C2 zs2.length ccap2] w (True_ w) := by
  have HR := Lib.hid hrow
  have HZ := Lib.hid hzs
  have HR2 := Lib.hid hrow2
  have HZ2 := Lib.hid hzs2
  clear hrow hzs hrow2 hzs2
  unfold maxLen at hz hz2
  by_cases hbig : 1048576 < zs.length
  · have hbig' : (1048576 : Int) < (zs.length : Int) := by omega
    go_enter Try.func9, Try.ntmps9
    go_wp2
    go_ret
    exact ⟨rfl, Below.refl _ _⟩
  have hbig' : ¬ (1048576 : Int) < (zs.length : Int) := by omega
  by_cases hbig2 : 1048576 < zs2.length
  · have hbig2' : (1048576 : Int) < (zs2.length : Int) := by omega
    go_enter Try.func9, Try.ntmps9
    go_wp2
    go_ret
    exact ⟨rfl, Below.refl _ _⟩
  have hbig2' : ¬ (1048576 : Int) < (zs2.length : Int) := by omega
  go_enter Try.func9, Try.ntmps9
  go_wp2_with fail
  go_at_call 34
  refine (drawFind_any C2 ccap2 zs2 _ HR2.out (by omega) hcap2 HZ2.out).mono ?_
  rintro e w1 ⟨ns, A, c1, u, rfl, hl, hsm, hu, hN, hb1⟩
  have HSM := Lib.hid hsm
  clear hsm
  go_wp2_with fail
  go_at_call 33
  refine (implFind_any A c1 ns u _ hN (by omega) HSM.out (by omega)).mono ?_
  rintro e w2 ⟨rfl, hb2⟩
  replace hN := hN.keep hb2
  replace hb1 : Below w.heap.size w w2 := hb1.trans (hb2.mono hb1.size)
  clear hb2
  go_wp2_with fail
  go_at_call 35
  refine (specFind_any A c1 ns u _ hN (by omega) HSM.out (by omega)).mono ?_
  rintro e w3 ⟨rfl, hb3⟩
  have hb3' : Below w.heap.size w w3 := hb1.trans (hb3.mono hb1.size)
  clear hb1 hb3 hN HSM
  generalize findR ns u = fr
  go_wp2_with fail
  go_at_call 29
  refine (drawTrie_any C ccap zs _ (Row.keep HR.out hb3') (by omega) hcap HZ.out).mono ?_
  rintro e w4 ⟨ss, en, A4, cap, rfl, hl4, hs4, he0, he1, hp4, hb4⟩
  have hb4' : Below w.heap.size w w4 := hb3'.trans (hb4.mono hb3'.size)
  have hv4 := Own.new w4 25 #[.slice A4 ss.length cap, .int .i64 en]
  have HL : TL w w4.heap.size en ss A4 cap (w4.alloc (.cells #[.slice A4 ss.length cap, .int .i64 en] 25)) := ⟨hv4, (own_row hp4).alloc _, hb4'.alloc hb4'.size _⟩
  have HS := Lib.hid hs4
  clear hv4 hp4 hb4 hb4' hs4 hb3'
  go_wp2_with fail
  go_at_call 31
  refine (implMake_any A4 cap ss en _ HL.p (by omega)).mono ?_
  rintro e w5 ⟨A5, c5, vl5, ys5, rfl, hF5, hb5⟩
  have HN5 := hF5.nodes
  replace HL := HL.keep hb5
  generalize w4.heap.size = V at HL ⊢
  clear hF5 hb5
  have c0 := HL.c0
  have c1' := HL.c1
  cases hv : vocOkB ss en with
  | false =>
    have H23 : Hid (∀ X, Row X A4 (strs ss) → Calls Try.prog 23 #[.agg #[.slice A4 ss.length cap, .int .i64 en]] X fun e X' => e = .returned (.bool false) ∧ Below X.heap.size X X') := Lib.hid (fun X h => by rw [← hv]; exact specOk_any A4 cap ss en X h (by omega))
    rw [trie_none hv]
    clear hv HN5
    go_wp2_with fail
    go_at_call 23
    refine (H23.out _ HL.p).mono ?_
    rintro e w6 ⟨rfl, hb6⟩
    go_wp2
    go_ret
    exact ⟨rfl, (HL.keep hb6).b⟩
  | true =>
    have hlen := trie_len hv
    have HV := Lib.hid hv
    have hz5 : ((trieOf ss en).length == 0) = false := beq_eq_false_iff_ne.2 (by omega)
    have hz6 : (((trieOf ss en).length : Int) == 0) = false := beq_eq_false_iff_ne.2 (by omega)
    clear hv
    go_wp2
    go_loopw [9, 10] (fun c i wr => ∃ (q : Bool) (k : Nat), c = .bool q ∧ i = .int .i64 k ∧ k ≤ ss.length ∧ someB ss en u k q ∧ wr = w5) (fun _ i _ => ss.length - (intOf i).toNat)
    case atStart =>
      refine ⟨_, 0, rfl, rfl, by omega, ?_, by first | rfl | trivial⟩
      unfold someB
      rw [List.isEmpty_iff, ← List.length_eq_zero_iff, ByteArray.toList_eq, Array.length_toList]
      exact ⟨fun q => .inl q, fun q => by
        rcases q with q | ⟨x, hx, _⟩
        · exact q
        · omega⟩
    case round =>
      obtain ⟨q, k, rfl, rfl, hk, hq, rfl⟩ := hrel
      by_cases hkl : k < ss.length
      · have hkl' : (k : Int) < (ss.length : Int) := by omega
        cases q with
        | true =>
          have HQ := Lib.hid (someB_yes hq)
          clear hq
          go_wp2
          go_roundw
          case rel => exact ⟨true, k + 1, rfl, by go_num, by omega, HQ.out, trivial⟩
          case measure => simp [intOf]; omega
        | false =>
          have hu0 : u.size ≠ 0 := fun e => by
            have := hq.2 (.inl e)
            cases this
          have hq2 := someB_step hq
          by_cases he : (k : Int) = en
          · rw [begB_end he] at hq2
            have he' : ((k : Int) == en) = true := by simpa using he
            have HQ := Lib.hid hq2
            clear hq hq2
            subst he
            go_wp2
            go_roundw
            case rel => exact ⟨false, k + 1, rfl, by go_num, by omega, HQ.out, trivial⟩
            case measure => simp [intOf]; omega
          · rw [begB_fits hkl he hu0] at hq2
            have he' : ((k : Int) == en) = false := by simpa using he
            have he2 : ((k : Int) != en) = true := by simpa using he
            have HQ := Lib.hid hq2
            obtain ⟨ab, ao, rfl, hck⟩ := HL.p.str hkl
            have hsk := HS.out _ (List.getElem_mem hkl)
            generalize hsp : ss[k] = sk at hck hsk HQ
            have H28 : Hid (∀ X, Calls Try.prog 28 #[.string sk, .string u] X fun e X' => e = .returned (.bool (fitsB sk u)) ∧ X = X') := Lib.hid (fun X => lfBegins_of sk u _ X (by unfold maxLen; omega) (by unfold maxLen; omega) rfl)
            clear hq hq2 hsp
            generalize fitsB sk u = bb at H28 HQ
            go_wp2_with fail
            go_at_call 28
            refine (H28.out _).mono ?_
            rintro e w6 ⟨rfl, rfl⟩
            go_wp2
            go_roundw
            case rel => exact ⟨bb, k + 1, by first | rfl | (cases bb <;> rfl), by go_num, by omega, HQ.out, trivial⟩
            case measure => simp [intOf]; omega
      · have hkl' : ¬ (k : Int) < (ss.length : Int) := by omega
        obtain rfl : k = ss.length := by omega
        have HE := Lib.hid (someB_end HV.out hq)
        have hlo := findR_lo (u := u) HV.out
        clear hq
        go_wp2_with fail
        go_at_call 33
        refine (implFind_any A5 c5 (trieOf ss en) u _ HN5 (by omega) trie_small (by omega)).mono ?_
        rintro e w6 ⟨rfl, hb6⟩
        have HB := Lib.hid (HL.keep hb6).b
        generalize findR (trieOf ss en) u = f2 at HE hlo ⊢
        go_wp2
        go_ret
        exact ⟨ret_bool (by rw [HE.out]; simp), HB.out⟩

end Go.Proofs.Ytcanhkngikeeiaa
