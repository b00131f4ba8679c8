/- The walk of the law FnTrieOrder: it returns true for every code, and writes nothing that was there. -/
import Derived.Test.YtcanhkngikeeiaaX1
import Derived.Test.YtcanhkngikeeiaaVocFirstW
namespace Go.Proofs.Ytcanhkngikeeiaa
open Go.RowKit
set_option linter.unusedVariables false

section
variable {σ : Type} {ids : σ → List Int} {next : σ → List (Int × σ)} {L : List Node}
theorem forest_sub {f : Nat} (ht : ∀ (i : Nat) (b : Int) (s : σ), Sub ids next L i f b s → ∀ j, i ≤ j → j < i + (tree ids next f i b s).length → ∃ f' b' s', Sub ids next L j f' b' s') : ∀ (l : List (Int × σ)) (base : Nat) (a z : List Node), L = a ++ (forest (tree ids next f) base l).2 ++ z → a.length = base → ∀ j, base ≤ j → j < base + (forest (tree ids next f) base l).2.length → ∃ f' b' s', Sub ids next L j f' b' s'
  | [], base, a, z, hL, ha, j, h1, h2 => by simp [forest_nil] at h2; omega
  | x :: l, base, a, z, hL, ha, j, h1, h2 => by
    rw [forest_cons] at hL h2
    simp only at hL h2
    by_cases c : j < base + (tree ids next f base x.1 x.2).length
    · exact ht base x.1 x.2 ⟨a, (forest (tree ids next f) (base + (tree ids next f base x.1 x.2).length) l).2 ++ z, by rw [hL]; simp, ha⟩ j h1 c
    · refine forest_sub ht l (base + (tree ids next f base x.1 x.2).length) (a ++ tree ids next f base x.1 x.2) z (by rw [hL]; simp) (by simp; omega) j (by omega) ?_
      rw [List.length_append] at h2
      omega
theorem sub_all : ∀ (f i : Nat) (b : Int) (s : σ), Sub ids next L i f b s → ∀ j, i ≤ j → j < i + (tree ids next f i b s).length → ∃ f' b' s', Sub ids next L j f' b' s'
  | 0, i, b, s, h, j, h1, h2 => by
    have : (tree ids next 0 i b s).length = 1 := rfl
    obtain rfl : j = i := by omega
    exact ⟨_, _, _, h⟩
  | f + 1, i, b, s, h, j, h1, h2 => by
    by_cases c : j = i
    · subst c; exact ⟨_, _, _, h⟩
    · obtain ⟨a, z, hL, ha⟩ := h
      have e : tree ids next (f + 1) i b s = ⟨b, (forest (tree ids next f) (i + 1) (next s)).1, ids s⟩ :: (forest (tree ids next f) (i + 1) (next s)).2 := rfl
      rw [e] at hL h2
      refine forest_sub (sub_all f) (next s) (i + 1) (a ++ [⟨b, (forest (tree ids next f) (i + 1) (next s)).1, ids s⟩]) z (by rw [hL]; simp) (by simp; omega) j (by omega) ?_
      rw [List.length_cons] at h2
      omega
end

/-- Kids by their bytes. -/
theorem trie_bytes {ss : List ByteArray} {en : Int} {j : Nat} (hj : j < (trieOf ss en).length) {q : Nat} (hq : q + 1 < (trieOf ss en)[j].kids.length) : byteAt (trieOf ss en) ((trieOf ss en)[j].kids[q]) < byteAt (trieOf ss en) ((trieOf ss en)[j].kids[q + 1]) := by
  cases h : vocOkB ss en with
  | false => rw [trie_none h] at hj; simp at hj
  | true =>
    have hsub := trie_sub h
    have e : trieOf ss en = tree (idsS ss en) (nextS ss en) 6 0 0 ⟨#[]⟩ := by unfold trieOf; rw [h]; rfl
    obtain ⟨f', b', s', hs'⟩ := sub_all (ids := idsS ss en) (next := nextS ss en) 6 0 0 (⟨#[]⟩ : ByteArray) hsub j (Nat.zero_le _) (by rw [← e]; omega)
    cases f' with
    | zero =>
      have hk : (trieOf ss en)[j].kids = [] := by
        obtain ⟨a, z, hL, rfl⟩ := hs'
        have key : ∀ (L : List Node) (hj : a.length < L.length), L = a ++ tree (idsS ss en) (nextS ss en) 0 a.length b' s' ++ z → L[a.length].kids = [] := by
          rintro L hj rfl
          simp [tree]
        exact key _ hj hL
      rw [hk] at hq
      simp at hq
    | succ g =>
      have hkids := hs'.kids hj
      have hlen : (trieOf ss en)[j].kids.length = (nextS ss en s').length := by rw [hkids, forest_kids]
      have hat : ∀ p (hp : p < (trieOf ss en)[j].kids.length), byteAt (trieOf ss en) ((trieOf ss en)[j].kids[p]) = (nextS ss en s')[p].1 := by
        intro p hp
        obtain ⟨j2, hj2, hsub2⟩ := hs'.kid (k := p) (by omega)
        have hjj2 : (trieOf ss en)[j].kids[p] = (j2 : Int) := by
          have := hj2
          rw [← hkids] at this
          exact (List.getElem?_eq_some_iff.1 this).2
        rw [hjj2, byteAt_sub hsub2]
      rw [hat q (by omega), hat (q + 1) hq]
      have hr := bytesTo_rising (u := begUsed ss en s' ss.length) 256
      rw [List.pairwise_iff_getElem] at hr
      have hb : (nextS ss en s').length = (bytesTo (begUsed ss en s' ss.length) 256).length := by simp [nextS]
      have := hr q (q + 1) (by omega) (by omega) (by omega)
      simpa [nextS] using this

/-- How often each number is among some. -/
def cnts (ks : List Int) (n : Nat) : List Int := (List.range n).map (fun (x : Nat) => ((ks.count (x : Int) : Nat) : Int))
@[simp] theorem cnts_length (ks : List Int) (n : Nat) : (cnts ks n).length = n := by simp [cnts]
theorem cnts_get {ks : List Int} {n x : Nat} (h : x < (cnts ks n).length) : (cnts ks n)[x] = (ks.count (x : Int) : Int) := by simp [cnts]
theorem cnts_snoc {ks : List Int} {n x : Nat} (hx : x < n) : (cnts ks n).set x ((ks.count (x : Int) : Int) + 1) = cnts (ks ++ [(x : Int)]) n := by
  apply List.ext_getElem
  · simp
  · intro i h1 h2
    rw [List.getElem_set]
    split
    · rename_i e; subst e
      simp [cnts]
    · rename_i e
      have : ¬ ((x : Int) = (i : Int)) := by omega
      simp [cnts, List.count_append, List.count_singleton, this]
theorem count_one : ∀ {l : List Int} {x : Int}, l.Nodup → x ∈ l → l.count x = 1
  | y :: l, x, h, hx => by
    rw [List.nodup_cons] at h
    rw [List.count_cons]
    by_cases e : y = x
    · subst e
      rw [List.count_eq_zero.2 h.1]; simp
    · rcases List.mem_cons.1 hx with q | q
      · exact absurd q.symm e
      · rw [count_one h.2 q]; simp [e]
theorem cnts_all {ss : List ByteArray} {en : Int} {i : Nat} (h1 : 1 ≤ i) (h2 : i < (trieOf ss en).length) : (allKids (trieOf ss en)).count (i : Int) = 1 := by
  cases h : vocOkB ss en with
  | false => rw [trie_none h] at h2; simp at h2
  | true =>
    rw [(trie_kids h).1.count_eq]
    have hn := rngI_nodup 1 ((trieOf ss en).length - 1)
    exact count_one hn (mem_rngI.2 ⟨i, rfl, h1, by omega⟩)
theorem allKids_take {ns : List Node} {k : Nat} (h : k < ns.length) : allKids (ns.take (k + 1)) = allKids (ns.take k) ++ ns[k].kids := by
  rw [List.take_succ_eq_append_getElem h, allKids_append]
  simp [allKids]

set_option maxRecDepth 100000 in
set_option maxHeartbeats 2000000 in
theorem trieOrder_walk (C : Option Addr) (ccap : Nat) (zs : List Int) (w : World) (hrow : Row w C (byts zs)) (hz : zs.length ≤ maxLen) (hcap : zs.length ≤ ccap) (hzs : ∀ z ∈ zs, 0 ≤ z ∧ z ≤ 255) :
    Calls Try.prog 10 #[.slice C zs.length ccap] w (True_ w) := by
  have HR := Lib.hid hrow
  have HZ := Lib.hid hzs
  clear hrow hzs
  unfold maxLen at hz
  by_cases hbig : 1048576 < zs.length
  · have hbig' : (1048576 : Int) < (zs.length : Int) := by omega
    go_enter Try.func10, Try.ntmps10
    go_wp2
    go_ret
    exact ⟨rfl, Below.refl _ _⟩
  have hbig' : ¬ (1048576 : Int) < (zs.length : Int) := by omega
  go_enter Try.func10, Try.ntmps10
  go_wp2_with fail
  refine (drawTrie_any C ccap zs _ HR.out (by omega) hcap HZ.out).mono ?_
  rintro e w1 ⟨ss, en, A, cap, rfl, hl, hs, he0, he1, hp, hb1⟩
  have hv1 := Own.new w1 25 #[.slice A ss.length cap, .int .i64 en]
  have HL : TL w w1.heap.size en ss A cap (w1.alloc (.cells #[.slice A ss.length cap, .int .i64 en] 25)) := ⟨hv1, (own_row hp).alloc _, hb1.alloc hb1.size _⟩
  clear hv1 hp hb1 hs
  go_wp2_with fail
  refine (specMake_any A cap ss en _ HL.p (by omega)).mono ?_
  rintro e w3 ⟨A3, c3, vl3, ys3, rfl, hF3, hb3⟩
  have HN3 := hF3.nodes
  replace HL := HL.keep hb3
  generalize w1.heap.size = V at HL ⊢
  clear hF3 hb3
  have c0 := HL.c0
  have c1 := HL.c1
  go_wp2_with fail
  refine (implMake_any A cap ss en _ HL.p (by omega)).mono ?_
  rintro e w2 ⟨A2, c2, vl2, ys2, rfl, hF2, hb2⟩
  have HN2 := hF2.nodes
  replace HN3 := HN3.keep hb2
  replace HL := HL.keep hb2
  clear hF2 hb2 c0 c1
  have hlen : (trieOf ss en).length ≤ 241 := by
    cases h : vocOkB ss en with
    | false => rw [trie_none h]; simp
    | true => exact (trie_len h).2
  go_wp2_with fail
  refine (lfTrie_same A2 A3 c2 c3 (trieOf ss en) _ HN2 HN3 (by omega) trie_small).mono ?_
  rintro e w4 ⟨rfl, hb4⟩
  replace HN2 := HN2.keep hb4
  replace HN3 := HN3.keep hb4
  replace HL := HL.keep hb4
  clear hb4
  obtain ⟨i0, hi0, hz0, hz1, hz2⟩ := info_parts info3
  have HI := Lib.hid (And.intro hi0 (And.intro hz0 (And.intro hz1 hz2)))
  clear hi0 hz0 hz1 hz2
  have HSM := Lib.hid (trie_small (ss := ss) (en := en))
  have hin : ∀ (j : Nat) (hj : j < (trieOf ss en).length), ∀ x ∈ (trieOf ss en)[j].kids, (j : Int) < x ∧ x < (trieOf ss en).length := fun j hj => by
    cases h : vocOkB ss en with
    | false => rw [trie_none h] at hj; simp at hj
    | true => exact trie_in h hj
  have HIN := Lib.hid hin
  have hby : ∀ (j : Nat) (hj : j < (trieOf ss en).length) (q : Nat) (a b : Int), (trieOf ss en)[j].kids[q]? = some a → (trieOf ss en)[j].kids[q + 1]? = some b → byteAt (trieOf ss en) a < byteAt (trieOf ss en) b := fun j hj q a b h1 h2 => by
    obtain ⟨_, e1⟩ := List.getElem?_eq_some_iff.1 h1
    obtain ⟨hq, e2⟩ := List.getElem?_eq_some_iff.1 h2
    rw [← e1, ← e2]
    exact trie_bytes hj hq
  have HBY := Lib.hid hby
  have HCN := Lib.hid (fun (i : Nat) (h1 : 1 ≤ i) (h2 : i < (trieOf ss en).length) => cnts_all h1 h2)
  have hkl : ∀ (j : Nat) (hj : j < (trieOf ss en).length), (trieOf ss en)[j].kids.length ≤ 241 := fun j hj => by
    cases h : vocOkB ss en with
    | false => rw [trie_none h] at hj; simp at hj
    | true =>
      have h1 := kids_len (List.getElem_mem hj)
      have h2 := (trie_kids h).1.length_eq
      have h3 : (rngI 1 ((trieOf ss en).length - 1)).length = (trieOf ss en).length - 1 := by simp [rngI]
      omega
  have HKL := Lib.hid hkl
  have hak : (allKids (trieOf ss en)).length ≤ 241 := by
    cases h : vocOkB ss en with
    | false => rw [trie_none h]; simp [allKids]
    | true =>
      have h2 := (trie_kids h).1.length_eq
      have h3 : (rngI 1 ((trieOf ss en).length - 1)).length = (trieOf ss en).length - 1 := by simp [rngI]
      omega
  obtain ⟨L, hL⟩ : ∃ L, L = trieOf ss en := ⟨_, rfl⟩
  have HLb := Lib.hid HL.b
  rw [← hL] at HSM HN2 hlen HIN HBY HCN HKL hak ⊢
  have HN := Lib.hid HN2
  clear HN3 hL hin hkl HN2 HL hby
  go_wp2_with (refine wpList_make_full _ rfl _ _ 26 rfl w4.heap.size 3 i0 (.int .i64 0) 1 Try.underlying26 HI.out.1 HI.out.2.1 HI.out.2.2.1 .i64 .i64 L.length L.length L.length rfl rfl rfl rfl (by rw [HI.out.2.2.2]; omega) (by unfold maxLen; omega) (by omega) ?_)
  intro w5 hown5 hgr5
  have hO5 : Own w5 w4.heap.size 3 (ints (cnts (allKids (L.take 0)) L.length)) := by
    have h1 := own_of_row hown5
    have e : (madeCells #[.int .i64 0] L.length).toList = ints (cnts (allKids (L.take 0)) L.length) := by
      rw [toList_madeCells_one]
      apply List.ext_getElem
      · simp
      · intro i h1 h2
        simp [ints, cnts, allKids]
    have e2 : (Value.int IntKind.i64 0).cells = #[.int .i64 0] := rfl
    rw [← e]
    exact h1
  have hb5 : Below w4.heap.size w4 w5 := (Below.refl _ _).grown hgr5 (Nat.le_refl _) (fun k hk => by cases hk)
  have HO5 := Lib.hid hO5
  have HB5 := Lib.hid hb5
  clear hown5 hgr5 hO5 hb5
  obtain ⟨g, hg⟩ : ∃ g, g = w4.heap.size := ⟨_, rfl⟩
  rw [← hg] at HO5 ⊢
  have hgl : w4.heap.size ≤ g := by omega
  clear hg
  go_wp2
  go_loopw [7, 8, 9] (fun i y z wr => ∃ k : Nat, k ≤ L.length ∧ i = .int .i64 k ∧ Own wr g 3 (ints (cnts (allKids (L.take k)) L.length)) ∧ Below w4.heap.size w4 wr) (fun i _ _ _ => L.length - (intOf i).toNat)
  case atStart => exact ⟨0, Nat.zero_le _, rfl, HO5.out, HB5.out⟩
  case round =>
    obtain ⟨k, hk, rfl, hO, hb⟩ := hrel
    have HO := Lib.hid hO
    have HB := Lib.hid hb
    clear hO hb
    by_cases hlt : k < L.length
    · have hlt' : (k : Int) < (L.length : Int) := by omega
      have HAK := Lib.hid (allKids_take hlt)
      have hkk := HKL.out k hlt
      have HIK := Lib.hid (HIN.out k hlt)
      have HBK := Lib.hid (HBY.out k hlt)
      have hpk : ∀ q, (allKids (L.take k) ++ L[k].kids.take q).length ≤ 241 := fun q => by
        have h1 : allKids L = allKids (L.take (k + 1)) ++ allKids (L.drop (k + 1)) := by rw [← allKids_append, List.take_append_drop]
        have h2 := congrArg List.length h1
        rw [allKids_take hlt] at h2
        simp only [List.length_append] at h2 ⊢
        have : (L[k].kids.take q).length ≤ L[k].kids.length := by simp; omega
        omega
      have HPK := Lib.hid hpk
      generalize hks : L[k].kids = ks at *
      have HKS := Lib.hid hks
      clear hks hpk
      go_wp2
      go_loopw [8, 9] (fun i z wr => ∃ q : Nat, q ≤ ks.length ∧ i = .int .i64 q ∧ Own wr g 3 (ints (cnts (allKids (L.take k) ++ ks.take q) L.length)) ∧ Below w4.heap.size w4 wr) (fun i _ _ => ks.length - (intOf i).toNat)
      case atStart => exact ⟨0, Nat.zero_le _, rfl, by simpa using HO.out, HB.out⟩
      case round =>
        clear HO HB
        obtain ⟨q, hq, rfl, hO, hb⟩ := hrel
        have hNd := (HN.out.keep hb)
        obtain ⟨nb, no, rfl, KK, kc, JJ, jc, hn⟩ := hNd.at_ hlt
        have n1 := hn.c1
        have hkr := hn.k
        rw [HKS.out] at n1 hkr
        by_cases hqt : q < ks.length
        · have hqt' : (q : Int) < (ks.length : Int) := by omega
          obtain ⟨kb, ko, rfl, hck⟩ := hkr.int hqt
          obtain ⟨x1, x2⟩ := HIK.out _ (List.getElem_mem hqt)
          obtain ⟨x, hx⟩ : ∃ x : Nat, ks[q] = (x : Int) := ⟨ks[q].toNat, by omega⟩
          rw [hx] at hck x1 x2
          have hxl : x < L.length := by omega
          have hgt : ¬ (x : Int) ≤ (k : Int) := by omega
          have hge : ¬ (L.length : Int) ≤ (x : Int) := by omega
          have hgt1 : decide (x ≤ k) = false := decide_eq_false (by omega)
          have hge1 : decide (L.length ≤ x) = false := decide_eq_false (by omega)
          have hgt2 : decide ((x : Int) ≤ (k : Int)) = false := decide_eq_false hgt
          have hge2 : decide ((L.length : Int) ≤ (x : Int)) = false := decide_eq_false hge
          have hcnt : (allKids (L.take k) ++ ks.take q).count (x : Int) ≤ 241 := Nat.le_trans List.count_le_length (HPK.out q)
          have cv : wr.cell? ⟨g, x, none⟩ = some (.int .i64 ((allKids (L.take k) ++ ks.take q).count (x : Int) : Nat)) := by
            rw [hO.cell_ (i := x) (by simp; omega)]
            simp [ints, cnts]
          have fv := hO.frozen x
          have hgw := hO.lt
          have hO2 : Own (wr.setCell ⟨g, x, none⟩ (.int .i64 (((allKids (L.take k) ++ ks.take q).count (x : Int) : Nat) + 1))) g 3 (ints (cnts (allKids (L.take k) ++ ks.take (q + 1)) L.length)) := by
            have h1 := hO.set_ x (.int .i64 (((allKids (L.take k) ++ ks.take q).count (x : Int) : Nat) + 1))
            have e : (ints (cnts (allKids (L.take k) ++ ks.take q) L.length)).set x (.int .i64 (((allKids (L.take k) ++ ks.take q).count (x : Int) : Nat) + 1)) = ints (cnts (allKids (L.take k) ++ ks.take (q + 1)) L.length) := by
              unfold ints
              rw [← List.map_set, cnts_snoc hxl, List.take_succ_eq_append_getElem hqt, hx, List.append_assoc]
            rw [e] at h1
            exact h1
          have hb2 : Below w4.heap.size w4 (wr.setCell ⟨g, x, none⟩ (.int .i64 (((allKids (L.take k) ++ ks.take q).count (x : Int) : Nat) + 1))) := hb.setCell hgl _
          have HO2 := Lib.hid hO2
          have HB2 := Lib.hid hb2
          generalize hcc : (allKids (L.take k) ++ ks.take q).count (x : Int) = cc at *
          have HX := Lib.hid hx
          clear hO hb hO2 hb2 hcc
          obtain ⟨nb', no', e', KK', kc', JJ', jc', hnx⟩ := hNd.at_ hxl
          injection e' with e'
          injection e' with e1 e2
          subst e1 e2
          have bx := hnx.c0
          cases q with
          | zero =>
            simp only [Nat.add_zero] at hck
            clear hn hNd hnx
            go_wp2_with fail
            go_quiet (fail)
            go_wp2
            go_roundw
            case rel => exact ⟨1, by omega, by go_num, HO2.out, below_drewN HB2.out _⟩
            case measure => simp [intOf]; omega
          | succ qp =>
            have hqp : qp < ks.length := by omega
            obtain ⟨kb2, ko2, e3, hck0⟩ := hkr.int hqp
            injection e3 with e3
            injection e3 with e4 e5
            subst e4 e5
            obtain ⟨y1, y2⟩ := HIK.out _ (List.getElem_mem hqp)
            obtain ⟨x0, hx0⟩ : ∃ x0 : Nat, ks[qp] = (x0 : Int) := ⟨ks[qp].toNat, by omega⟩
            rw [hx0] at hck0 y1 y2
            have hx0l : x0 < L.length := by omega
            obtain ⟨nb', no', e', KK', kc', JJ', jc', hnx0⟩ := hNd.at_ hx0l
            injection e' with e'
            injection e' with e1 e2
            subst e1 e2
            have bx0 := hnx0.c0
            have hlt2 := HBK.out qp (x0 : Int) (x : Int) (by rw [List.getElem?_eq_getElem hqp, hx0]) (by rw [List.getElem?_eq_getElem hqt, HX.out])
            rw [byteAt_eq hx0l, byteAt_eq hxl] at hlt2
            generalize L[x0].byte = b0 at *
            generalize L[x].byte = b1 at *
            have hnge : ¬ b1 ≤ b0 := by omega
            have hnge1 : decide (b1 ≤ b0) = false := decide_eq_false hnge
            have hpos1 : decide ((0 : Int) < (qp : Int) + 1) = true := decide_eq_true (by omega)
            have hqz : (qp : Int) < (ks.length : Int) := by omega
            have hqz1 : (qp : Int) + 1 < (ks.length : Int) := by omega
            have hwq : IntKind.i64.wrap (qp : Int) = (qp : Int) := IntWalk.i64_in _ (by omega)
            have hwq2 : IntKind.i64.wrap ((qp : Int) + 1 - 1) = (qp : Int) := by rw [IntKind.wrap_i64]; omega
            have hpos : (0 : Int) < (qp : Int) + 1 := by omega
            clear hn hNd hnx hnx0
            go_wp2_with fail
            go_quiet (fail)
            go_wp2
            go_roundw
            case rel => exact ⟨qp + 1 + 1, by omega, by go_num, HO2.out, below_drewN HB2.out _⟩
            case measure => simp [intOf]; omega
        · have hqt' : ¬ (q : Int) < (ks.length : Int) := by omega
          obtain rfl : q = ks.length := by omega
          have hO2 : Own wr g 3 (ints (cnts (allKids (L.take (k + 1))) L.length)) := by
            rw [HAK.out]; simpa using hO
          have HO2 := Lib.hid hO2
          have HB2 := Lib.hid hb
          clear hO hb hO2 hn hNd
          go_wp2
          go_roundw
          case rel => exact ⟨k + 1, by omega, by go_num, HO2.out, HB2.out⟩
          case measure => simp [intOf]; omega
    · have hlt' : ¬ (k : Int) < (L.length : Int) := by omega
      obtain rfl : k = L.length := by omega
      have htk : L.take L.length = L := List.take_of_length_le (Nat.le_refl _)
      rw [htk] at HO
      clear htk
      go_wp2
      go_loopw [10] (fun i wx => ∃ q : Nat, 1 ≤ q ∧ i = .int .i64 q ∧ wr = wx) (fun i _ => L.length - (intOf i).toNat)
      case atStart => exact ⟨1, Nat.le_refl _, rfl, rfl⟩
      case round =>
        obtain ⟨q, hq1, rfl, rfl⟩ := hrel
        by_cases hqt : q < L.length
        · have hqt' : (q : Int) < (L.length : Int) := by omega
          have cv : wr.cell? ⟨g, q, none⟩ = some (.int .i64 1) := by
            rw [HO.out.cell_ (i := q) (by simp; omega)]
            have := HCN.out q hq1 hqt
            simp [ints, cnts, this]
          go_wp2
          go_roundw
          case rel => exact ⟨q + 1, by omega, by go_num, trivial⟩
          case measure => simp [intOf]; omega
        · have hqt' : ¬ (q : Int) < (L.length : Int) := by omega
          have hbf := HLb.out.trans (HB.out.mono HLb.out.size)
          have HBF := Lib.hid hbf
          clear hbf
          go_wp2
          go_ret
          exact ⟨rfl, HBF.out⟩

end Go.Proofs.Ytcanhkngikeeiaa
