/- The walk of the law FnTrieCount: it returns true for every code, and writes nothing that was there. -/
import Derived.Test.YtcanhkngikeeiaaV9
import Derived.Test.YtcanhkngikeeiaaVocFirstW
namespace Go.Proofs.Ytcanhkngikeeiaa
open Go.RowKit
set_option linter.unusedVariables false

/-- How many pieces end at nodes. -/
def sumIds : List Node → Nat
  | [] => 0
  | n :: l => n.ids.length + sumIds l
theorem sumIds_append : ∀ l l' : List Node, sumIds (l ++ l') = sumIds l + sumIds l'
  | [], l' => by simp [sumIds]
  | x :: l, l' => by rw [List.cons_append, sumIds, sumIds, sumIds_append l l']; omega
theorem sumIds_take {ns : List Node} {k : Nat} (h : k < ns.length) : sumIds (ns.take (k + 1)) = sumIds (ns.take k) + ns[k].ids.length := by
  rw [List.take_succ_eq_append_getElem h, sumIds_append]
  simp [sumIds]

theorem forest_total (dep : Nat) (tr : Nat → Int → Nat × List PP → List Node) : ∀ (n : Nat) (l : List PP) (base : Nat), l.length ≤ n → (∀ e ∈ groups dep n l, ∀ base, sumIds (tr base e.1 e.2) = e.2.2.length) → sumIds (forest tr base (groups dep n l)).2 = l.length
  | 0, l, base, hn, _ => by
    have : l = [] := List.length_eq_zero_iff.1 (by omega)
    subst this
    simp [groups, forest_nil, sumIds]
  | n + 1, [], base, _, _ => by simp [groups, forest_nil, sumIds]
  | n + 1, x :: l, base, hn, ht => by
    unfold groups at ht ⊢
    rw [forest_cons]
    simp only
    rw [sumIds_append]
    have h1 := ht _ (List.mem_cons_self ..) base
    simp only at h1
    have h4 := congrArg List.length (List.takeWhile_append_dropWhile (p := fun y => byAt dep y == byAt dep x) (l := x :: l))
    rw [List.length_append] at h4
    have hne : 1 ≤ ((x :: l).takeWhile (fun y => byAt dep y == byAt dep x)).length := by rw [List.takeWhile_cons]; simp
    have h3 := forest_total dep tr n ((x :: l).dropWhile (fun y => byAt dep y == byAt dep x)) (base + (tr base (byAt dep x) (dep + 1, (x :: l).takeWhile (fun y => byAt dep y == byAt dep x))).length) (by omega) (fun e he => ht e (List.mem_cons_of_mem _ he))
    omega
theorem groups_dep (dep : Nat) : ∀ (n : Nat) (l : List PP), ∀ e ∈ groups dep n l, e.2.1 = dep + 1
  | 0, l, e, he => by simp [groups] at he
  | n + 1, [], e, he => by simp [groups] at he
  | n + 1, x :: l, e, he => by
    unfold groups at he
    rcases List.mem_cons.1 he with rfl | h
    · rfl
    · exact groups_dep dep n _ e h
theorem tree_total {ss : List ByteArray} {en : Int} {P : List PP} (hP : Few ss en P) : ∀ (f : Nat) (t : ByteArray) (base : Nat) (b : Int), 6 ≤ t.size + f → sumIds (tree idsI nextI f base b (t.size, P.filter (preB t))) = (P.filter (preB t)).length
  | 0, t, base, b, hf => by
    have h1 := congrArg List.length (List.takeWhile_append_dropWhile (p := endsB t.size) (l := P.filter (preB t)))
    rw [List.length_append] at h1
    have h2 : (P.filter (preB t)).dropWhile (endsB t.size) = [] := by
      rw [(while_filter _ _ (ends_first hP.s t)).2, List.filter_eq_nil_iff]
      intro x hx
      rw [List.mem_filter] at hx
      have h1 := hP.z x hx.1
      have h2 := ((pre_iff t x).1 hx.2).length_le
      rw [tl_len] at h2
      simp at h2
      unfold endsB
      simp
      omega
    rw [h2] at h1
    unfold tree
    simp only [sumIds, idsI, List.length_map]
    simp at h1
    omega
  | f + 1, t, base, b, hf => by
    have h1 := congrArg List.length (List.takeWhile_append_dropWhile (p := endsB t.size) (l := P.filter (preB t)))
    rw [List.length_append] at h1
    have h3 := forest_total t.size (tree idsI nextI f) (P.filter (preB t)).length ((P.filter (preB t)).dropWhile (endsB t.size)) (base + 1) (by omega) (fun e he base => by
      obtain ⟨lb, g1, g2, e1, _, e3⟩ := same_next hP.s t
      have he' : e ∈ nextI (t.size, P.filter (preB t)) := he
      have he2 := he'
      rw [e1, List.mem_map] at he'
      obtain ⟨c, hc, rfl⟩ := he'
      obtain ⟨q1, q2⟩ := e3 c hc
      have hs : (g2 c).size = t.size + 1 := by
        have he3 : (c, g1 c) ∈ groups t.size (P.filter (preB t)).length ((P.filter (preB t)).dropWhile (endsB t.size)) := he
        have := groups_dep _ _ _ _ he3
        rw [← q1]; exact this
      have e4 : g1 c = ((g2 c).size, P.filter (preB (g2 c))) := by rw [← q1, ← q2]
      simp only
      rw [e4]
      exact tree_total hP f (g2 c) base c (by omega))
    unfold tree
    rw [sumIds]
    simp only [idsI, List.length_map]
    have e5 : nextI (t.size, P.filter (preB t)) = groups t.size (P.filter (preB t)).length ((P.filter (preB t)).dropWhile (endsB t.size)) := rfl
    rw [e5]
    omega

theorem srt_ex2 (ss : List ByteArray) (en : Int) : ∃ P, Srt ss en P ∧ P.length = (plains ss en ss.length).length := by
  obtain ⟨h1, h2⟩ := Sort.insertionSort_holds (lt := ltL) swo_ltL (plains ss en ss.length).toArray 0 (plains ss en ss.length).toArray.size (Nat.zero_le _) (Nat.le_refl _)
  exact ⟨_, srt_of ⟨h1, h2⟩, by have := h1.1; simpa using this⟩
theorem trie_total {ss : List ByteArray} {en : Int} (h : vocOkB ss en = true) : sumIds (trieOf ss en) = (plains ss en ss.length).length := by
  obtain ⟨P, hS, hl⟩ := srt_ex2 ss en
  have e : trieOf ss en = tree (idsS ss en) (nextS ss en) 6 0 0 ⟨#[]⟩ := by unfold trieOf; rw [h]; rfl
  have h1 := tree_total (few_of h hS) 6 ⟨#[]⟩ 0 0 (by decide)
  rw [List.filter_eq_self.2 (fun x _ => pre_empty x)] at h1
  rw [e, ← same_root hS 6, ← hl]
  exact h1
theorem sumIds_le {ns : List Node} : ∀ {l : List Node}, (∀ n ∈ l, n.ids.length ≤ 1048576) → sumIds l ≤ 1048576 * l.length
  | [], _ => by simp [sumIds]
  | x :: l, h => by
    have h1 := sumIds_le (ns := ns) (l := l) (fun n hn => h n (by simp [hn]))
    have h2 := h x (by simp)
    rw [sumIds, List.length_cons, Nat.mul_add, Nat.mul_one]
    omega

set_option maxRecDepth 100000 in
set_option maxHeartbeats 2000000 in
theorem trieCount_walk (C : Option Addr) (ccap : Nat) (zs : List Int) (w : World) (hrow : Row w C (byts zs)) (hz : zs.length ≤ maxLen) (hcap : zs.length ≤ ccap) (hzs : ∀ z ∈ zs, 0 ≤ z ∧ z ≤ 255) :
    Calls Try.prog 11 #[.slice C zs.length ccap] w (True_ w) := by
  have HR := Lib.hid hrow
  have HZ := Lib.hid hzs
  clear hrow hzs
  unfold maxLen at hz
  by_cases hbig : 1048576 < zs.length
  · have hbig' : (1048576 : Int) < (zs.length : Int) := by omega
    go_enter Try.func11, Try.ntmps11
    go_wp2
    go_ret
    exact ⟨rfl, Below.refl _ _⟩
  have hbig' : ¬ (1048576 : Int) < (zs.length : Int) := by omega
  go_enter Try.func11, Try.ntmps11
  go_wp2_with fail
  refine (drawTrie_any C ccap zs _ HR.out (by omega) hcap HZ.out).mono ?_
  rintro e w1 ⟨ss, en, A, cap, rfl, hl, hs, he0, he1, hp, hb1⟩
  have hv1 := Own.new w1 25 #[.slice A ss.length cap, .int .i64 en]
  have HL : TL w w1.heap.size en ss A cap (w1.alloc (.cells #[.slice A ss.length cap, .int .i64 en] 25)) := ⟨hv1, (own_row hp).alloc _, hb1.alloc hb1.size _⟩
  clear hv1 hp hb1 hs
  go_wp2_with fail
  refine (specMake_any A cap ss en _ HL.p (by omega)).mono ?_
  rintro e w3 ⟨A3, c3, vl3, ys3, rfl, hF3, hb3⟩
  have HN3 := hF3.nodes
  replace HL := HL.keep hb3
  generalize w1.heap.size = V at HL ⊢
  clear hF3 hb3
  have c0 := HL.c0
  have c1 := HL.c1
  go_wp2_with fail
  refine (implMake_any A cap ss en _ HL.p (by omega)).mono ?_
  rintro e w2 ⟨A2, c2, vl2, ys2, rfl, hF2, hb2⟩
  have HN2 := hF2.nodes
  replace HN3 := HN3.keep hb2
  replace HL := HL.keep hb2
  clear hF2 hb2 c0 c1
  have hlen : (trieOf ss en).length ≤ 241 := by
    cases h : vocOkB ss en with
    | false => rw [trie_none h]; simp
    | true => exact (trie_len h).2
  go_wp2_with fail
  refine (lfTrie_same A2 A3 c2 c3 (trieOf ss en) _ HN2 HN3 (by omega) trie_small).mono ?_
  rintro e w4 ⟨rfl, hb4⟩
  replace HN2 := HN2.keep hb4
  replace HN3 := HN3.keep hb4
  replace HL := HL.keep hb4
  clear hb4
  have c0 := HL.c0
  have c1 := HL.c1
  cases hB : vocOkB ss en
  · have hT := trie_none hB
    have HT := Lib.hid hT
    rw [hT] at HN2 HN3 ⊢
    simp only [List.length_nil]
    clear hB hT hlen
    go_wp2_with fail
    refine (lfTrie_same A2 A3 c2 c3 [] _ HN2 HN3 (by simp) (fun n hn => by cases hn)).mono ?_
    rintro e w6 ⟨rfl, hb6⟩
    replace HL := HL.keep hb6
    go_wp2
    go_ret
    exact ⟨rfl, HL.b⟩
  · obtain ⟨h1, h2⟩ := trie_len hB
    have HTOT := Lib.hid (trie_total hB)
    obtain ⟨_, hs40, _, _, _⟩ := vocOk_parts hB
    have hne : (((trieOf ss en).length : Int) == 0) = false := by rw [beq_eq_false_iff_ne]; omega
    have HSM := Lib.hid (trie_small (ss := ss) (en := en))
    obtain ⟨L, hL⟩ : ∃ L, L = trieOf ss en := ⟨_, rfl⟩
    rw [← hL] at HTOT HSM HN2 hne h1 h2 hlen ⊢
    clear hB HN3 hL
    have HPR : Hid (∀ k, (plains ss en k).length ≤ k) := Lib.hid (plains_length ss en)
    go_wp2
    go_loopw [6, 7] (fun x i wr => ∃ k : Nat, k ≤ L.length ∧ i = .int .i64 k ∧ x = .int .i64 (sumIds (L.take k)) ∧ w4 = wr) (fun _ i _ => L.length - (intOf i).toNat)
    case atStart => exact ⟨0, Nat.zero_le _, rfl, rfl, rfl⟩
    case round =>
      obtain ⟨k, hk, rfl, rfl, rfl⟩ := hrel
      have hsl : sumIds (L.take k) ≤ 1048576 * 241 := by
        have q := sumIds_le (ns := []) (l := L.take k) (fun n hn => (HSM.out n (List.mem_of_mem_take hn)).2)
        have : (L.take k).length ≤ 241 := by simp; omega
        have := Nat.mul_le_mul_left 1048576 this
        omega
      by_cases hlt : k < L.length
      · have hlt' : (k : Int) < (L.length : Int) := by omega
        obtain ⟨b, off, rfl, K, kc, J, jc, hn⟩ := HN2.at_ hlt
        have n2 := hn.c2
        have HST := Lib.hid (sumIds_take hlt)
        have hil := (HSM.out _ (List.getElem_mem hlt)).2
        generalize L[k].ids.length = il at *
        clear hn
        go_wp2
        go_roundw
        case rel => exact ⟨k + 1, by omega, by go_num, by rw [HST.out]; go_num, trivial⟩
        case measure => simp [intOf]; omega
      · have hlt' : ¬ (k : Int) < (L.length : Int) := by omega
        obtain rfl : k = L.length := by omega
        have htk : L.take L.length = L := List.take_of_length_le (Nat.le_refl _)
        rw [htk] at hsl ⊢
        rw [HTOT.out] at hsl ⊢
        clear htk
        have hpl := HPR.out ss.length
        generalize hmm : (plains ss en ss.length).length = M at *
        have HMM := Lib.hid hmm
        clear hmm
        go_wp2
        go_loopw [8, 9] (fun x i wr => ∃ k : Nat, k ≤ ss.length ∧ i = .int .i64 k ∧ x = .int .i64 (plains ss en k).length ∧ w4 = wr) (fun _ i _ => ss.length - (intOf i).toNat)
        case atStart => exact ⟨0, Nat.zero_le _, rfl, rfl, rfl⟩
        case round =>
          obtain ⟨k, hk, rfl, rfl, rfl⟩ := hrel
          have hpk := HPR.out k
          by_cases hlt : k < ss.length
          · have hlt' : (k : Int) < (ss.length : Int) := by omega
            obtain ⟨pb, po, rfl, hcp⟩ := HL.p.piece hlt
            cases hP : plainB ss en k
            · have HPN := Lib.hid (plains_no hP)
              have hpp : ((k : Int) != en) = false ∨ (((k : Int) != en) = true ∧ ¬ 0 < (pieceAt ss k).size) := by
                unfold plainB at hP
                cases q : ((k : Int) != en) with
                | false => exact .inl rfl
                | true => rw [q, Bool.true_and, decide_eq_false_iff_not] at hP; exact .inr ⟨rfl, hP⟩
              clear hP
              rcases hpp with h | ⟨h, h'⟩
              · go_wp2
                go_roundw
                case rel => exact ⟨k + 1, by omega, by go_num, by rw [HPN.out], trivial⟩
                case measure => simp [intOf]; omega
              · have h'' : ¬ (0 : Int) < ((pieceAt ss k).size : Int) := by omega
                go_wp2
                go_roundw
                case rel => exact ⟨k + 1, by omega, by go_num, by rw [HPN.out], trivial⟩
                case measure => simp [intOf]; omega
            · have HPN := Lib.hid (plains_yes hP)
              have hpp : ((k : Int) != en) = true ∧ 0 < (pieceAt ss k).size := by
                unfold plainB at hP
                rw [Bool.and_eq_true, decide_eq_true_eq] at hP
                exact hP
              obtain ⟨h, h'⟩ := hpp
              have h'' : (0 : Int) < ((pieceAt ss k).size : Int) := by omega
              clear hP
              go_wp2
              go_roundw
              case rel => exact ⟨k + 1, by omega, by go_num, by rw [HPN.out]; simp; done, trivial⟩
              case measure => simp [intOf]; omega
          · have hlt' : ¬ (k : Int) < (ss.length : Int) := by omega
            obtain rfl : k = ss.length := by omega
            rw [HMM.out]
            have heq : ((M : Int) == (M : Int)) = true := by simp
            go_wp2
            go_ret
            exact ⟨rfl, HL.b⟩

end Go.Proofs.Ytcanhkngikeeiaa
