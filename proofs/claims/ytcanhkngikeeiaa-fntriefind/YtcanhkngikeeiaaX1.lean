/- Where a text leads in the tree of a vocabulary. Plain mathematics. -/
import Derived.Test.YtcanhkngikeeiaaV9
namespace Go.Proofs.Ytcanhkngikeeiaa
open Go.RowKit
set_option linter.unusedVariables false

section
variable {σ : Type} (ids : σ → List Int) (next : σ → List (Int × σ))
/-- Below a node lies the tree of a state. -/
def Sub (L : List Node) (i f : Nat) (b : Int) (s : σ) : Prop := ∃ a z, L = a ++ tree ids next f i b s ++ z ∧ a.length = i

variable {ids next} {L : List Node} {i f : Nat} {b : Int} {s : σ}
theorem tree_head (f base : Nat) (b : Int) (s : σ) : ∃ ks r, tree ids next f base b s = ⟨b, ks, ids s⟩ :: r := by
  cases f with
  | zero => exact ⟨[], [], rfl⟩
  | succ f => exact ⟨_, _, rfl⟩
theorem Sub.at_ (h : Sub ids next L i f b s) : ∃ hi : i < L.length, L[i].ids = ids s ∧ L[i].byte = b := by
  obtain ⟨a, z, rfl, rfl⟩ := h
  obtain ⟨ks, r, e⟩ := tree_head (ids := ids) (next := next) f a.length b s
  rw [e]
  refine ⟨by simp, ?_, ?_⟩ <;> simp
theorem Sub.kids (h : Sub ids next L i (f + 1) b s) (hi : i < L.length) : L[i].kids = (forest (tree ids next f) (i + 1) (next s)).1 := by
  obtain ⟨a, z, rfl, rfl⟩ := h
  simp [tree]
theorem forest_split (tr : Nat → Int → σ → List Node) (base : Nat) (l : List (Int × σ)) {k : Nat} (hk : k < l.length) : ∃ r1 r2, forest tr base l = ((forest tr base (l.take k)).1 ++ ((base + (forest tr base (l.take k)).2.length : Nat) : Int) :: r1, (forest tr base (l.take k)).2 ++ (tr (base + (forest tr base (l.take k)).2.length) l[k].1 l[k].2 ++ r2)) := by
  have h := forest_append tr (l.take k) (l[k] :: l.drop (k + 1)) base
  rw [← List.drop_eq_getElem_cons hk, List.take_append_drop] at h
  rw [List.drop_eq_getElem_cons hk, forest_cons] at h
  exact ⟨_, _, h⟩
theorem Sub.kid (h : Sub ids next L i (f + 1) b s) {k : Nat} (hk : k < (next s).length) : ∃ j : Nat, (forest (tree ids next f) (i + 1) (next s)).1[k]? = some (j : Int) ∧ Sub ids next L j f (next s)[k].1 (next s)[k].2 := by
  obtain ⟨a, z, rfl, rfl⟩ := h
  obtain ⟨r1, r2, hf⟩ := forest_split (tree ids next f) (a.length + 1) (next s) hk
  refine ⟨a.length + 1 + (forest (tree ids next f) (a.length + 1) ((next s).take k)).2.length, ?_, ?_⟩
  · rw [hf]
    simp only
    have hl : (forest (tree ids next f) (a.length + 1) ((next s).take k)).1.length = k := by rw [forest_kids]; simp; omega
    rw [List.getElem?_append_right (by omega), hl]
    simp
  · have ht : tree ids next (f + 1) a.length b s = ⟨b, (forest (tree ids next f) (a.length + 1) (next s)).1, ids s⟩ :: (forest (tree ids next f) (a.length + 1) (next s)).2 := rfl
    have hf2 := congrArg Prod.snd hf
    simp only at hf2
    refine ⟨a ++ ⟨b, (forest (tree ids next f) (a.length + 1) (next s)).1, ids s⟩ :: (forest (tree ids next f) (a.length + 1) ((next s).take k)).2, r2 ++ z, ?_, ?_⟩
    · rw [ht, hf2]
      simp only [List.append_assoc, List.cons_append]
    · simp; omega
end

theorem kidOf_none {ns : List Node} {c : Int} : ∀ {ks : List Int}, (∀ x ∈ ks, byteAt ns x ≠ c) → kidOf ns c ks = -1
  | [], _ => rfl
  | k :: ks, h => by unfold kidOf; rw [if_neg (h k (by simp)), kidOf_none (fun x hx => h x (by simp [hx]))]
theorem kidOf_some {ns : List Node} {c : Int} : ∀ {ks : List Int} {k : Nat} (hk : k < ks.length), (∀ j (hj : j < ks.length), j < k → byteAt ns ks[j] ≠ c) → byteAt ns ks[k] = c → kidOf ns c ks = ks[k]
  | x :: ks, 0, _, _, h => by unfold kidOf; rw [if_pos (by simpa using h)]; rfl
  | x :: ks, k + 1, hk, h1, h => by
    unfold kidOf
    rw [if_neg (by have := h1 0 (by simp) (by omega); simpa using this)]
    have := kidOf_some (ns := ns) (c := c) (ks := ks) (k := k) (by simpa using hk) (fun j hj hjk => by have := h1 (j + 1) (by simpa using hj) (by omega); simpa using this) (by simpa using h)
    simpa using this

section
variable {ss : List ByteArray} {en : Int} {L : List Node}
theorem mem_next {t : ByteArray} {c : UInt8} : (c.toNat : Int) ∈ bytesTo (begUsed ss en t ss.length) 256 ↔ ∃ x, x < ss.length ∧ begB ss en (t.push c) x = true := by
  rw [mem_bytesTo]
  constructor
  · rintro ⟨n, hn, h, e⟩
    rw [used_iff hn] at h
    obtain ⟨x, h1, h2, h3, h4⟩ := h
    refine ⟨x, h1, ?_⟩
    unfold begB at h2 ⊢
    rw [Bool.and_eq_true] at h2 ⊢
    refine ⟨h2.1, ?_⟩
    have hp : preB t (pieceAt ss x, (0 : Int)) = true := h2.2
    obtain ⟨c1, r, ex⟩ := split_at (x := (pieceAt ss x, (0 : Int))) hp (by unfold endsB; simpa using h3)
    rw [fits_iff, push_toList]
    have hb := byAt_of ex (dep := t.size) (by simp)
    unfold byAt at hb
    unfold goesOn at h4
    simp only at hb
    have hc : c1 = c := by
      apply UInt8.toNat.inj
      omega
    subst hc
    have ex' : (pieceAt ss x).data.toList = t.data.toList ++ c1 :: r := ex
    rw [ex']
    exact ⟨r, by simp⟩
  · rintro ⟨x, h1, h2⟩
    unfold begB at h2
    rw [Bool.and_eq_true, fits_iff, push_toList] at h2
    obtain ⟨r, hr⟩ := h2.2
    have ex : tl (pieceAt ss x, (0 : Int)) = t.data.toList ++ c :: r := by show (pieceAt ss x).data.toList = _; rw [← hr]; simp
    have hb := byAt_of ex (dep := t.size) (by simp)
    refine ⟨c.toNat, c.toNat_lt, ?_, rfl⟩
    rw [used_iff c.toNat_lt]
    refine ⟨x, h1, ?_, ?_, ?_⟩
    · unfold begB
      rw [h2.1, Bool.true_and, fits_iff]
      have ex' : (pieceAt ss x).data.toList = t.data.toList ++ c :: r := ex
      rw [ex']
      exact List.prefix_append _ _
    · have := congrArg List.length ex
      rw [tl_len] at this
      simp at this
      omega
    · unfold goesOn
      unfold byAt at hb
      simp only at hb
      omega

theorem byteAt_sub {i f : Nat} {b : Int} {s : ByteArray} (h : Sub (idsS ss en) (nextS ss en) L i f b s) : byteAt L (i : Int) = b := by
  obtain ⟨hi, _, hb⟩ := h.at_
  rw [byteAt_eq hi]; exact hb

/-- Where a text leads. -/
theorem find_spec (hs : ∀ s ∈ ss, s.size ≤ 6) : ∀ (bs : List UInt8) (t u : ByteArray) (i f : Nat) (b : Int), Sub (idsS ss en) (nextS ss en) L i f b t → 6 ≤ t.size + f → u.data.toList = t.data.toList ++ bs →
    (findGo L (i : Int) bs = -1 ∧ bs ≠ [] ∧ ¬ ∃ x, x < ss.length ∧ begB ss en u x = true) ∨ (∃ (j f' : Nat) (b' : Int), findGo L (i : Int) bs = (j : Int) ∧ Sub (idsS ss en) (nextS ss en) L j f' b' u ∧ (bs = [] ∨ ∃ x, x < ss.length ∧ begB ss en u x = true))
  | [], t, u, i, f, b, h, hf, hu => by
    right
    have e : u = t := bytes_eq (by rw [ByteArray.toList_eq, ByteArray.toList_eq, hu]; simp)
    subst e
    exact ⟨i, f, b, rfl, h, .inl rfl⟩
  | c :: bs, t, u, i, f, b, h, hf, hu => by
    obtain ⟨hi, _, _⟩ := h.at_
    have hgd : (L.getD (i : Int).toNat default) = L[i] := by simp [hi]
    have hu2 : u.data.toList = (t.push c).data.toList ++ bs := by rw [push_toList, hu]; simp
    by_cases hc : (c.toNat : Int) ∈ bytesTo (begUsed ss en t ss.length) 256
    · -- the byte goes on
      have hlt : t.size < 6 := by
        obtain ⟨x, h1, h2⟩ := mem_next.1 hc
        unfold begB at h2
        rw [Bool.and_eq_true, fits_iff] at h2
        have h3 := h2.2.length_le
        rw [push_toList] at h3
        have h4 : (pieceAt ss x).size ≤ 6 := by rw [pieceAt_eq h1]; exact hs _ (List.getElem_mem h1)
        simp at h3
        omega
      obtain ⟨g, rfl⟩ : ∃ g, f = g + 1 := ⟨f - 1, by omega⟩
      obtain ⟨k, hk, hkc⟩ := List.getElem_of_mem hc
      have hnl : (nextS ss en t).length = (bytesTo (begUsed ss en t ss.length) 256).length := by simp [nextS]
      have hk' : k < (nextS ss en t).length := by omega
      have hnk : (nextS ss en t)[k] = ((c.toNat : Int), t.push c) := by
        simp only [nextS, List.getElem_map, hkc]
        simp
      obtain ⟨j, hj, hsub⟩ := h.kid hk'
      rw [hnk] at hsub
      simp only at hsub
      have hkids := h.kids hi
      have hkk : k < L[i].kids.length := by rw [hkids, forest_kids]; exact hk'
      have hkid : kidOf L (c.toNat : Int) L[i].kids = (j : Int) := by
        have hjj : L[i].kids[k] = (j : Int) := by
          have := hj
          rw [← hkids] at this
          exact (List.getElem?_eq_some_iff.1 this).2
        rw [← hjj]
        refine kidOf_some hkk (fun q hq hqk => ?_) (by rw [hjj]; exact byteAt_sub hsub)
        have hq' : q < (nextS ss en t).length := by omega
        obtain ⟨j2, hj2, hsub2⟩ := h.kid hq'
        have hjj2 : L[i].kids[q] = (j2 : Int) := by
          have := hj2
          rw [← hkids] at this
          exact (List.getElem?_eq_some_iff.1 this).2
        rw [hjj2, byteAt_sub hsub2]
        have hr := bytesTo_rising (u := begUsed ss en t ss.length) 256
        rw [List.pairwise_iff_getElem] at hr
        have := hr q k (by omega) hk hqk
        rw [hkc] at this
        have e1 : (nextS ss en t)[q].1 = (bytesTo (begUsed ss en t ss.length) 256)[q]'(by omega) := by simp [nextS]
        rw [e1]
        omega
      have hgo : findGo L (i : Int) (c :: bs) = findGo L (j : Int) bs := by
        conv => lhs; unfold findGo
        rw [hgd, hkid, if_neg (by omega)]
      rw [hgo]
      rcases find_spec hs bs (t.push c) u j g _ hsub (by rw [push_size]; omega) hu2 with ⟨q1, q2, q3⟩ | ⟨j', f', b', q1, q2, q3⟩
      · left; exact ⟨q1, by simp, q3⟩
      · right
        refine ⟨j', f', b', q1, q2, .inr ?_⟩
        rcases q3 with rfl | q3
        · have e : u = t.push c := bytes_eq (by rw [ByteArray.toList_eq, ByteArray.toList_eq, hu2]; simp)
          rw [e]
          exact mem_next.1 hc
        · exact q3
    · left
      have hno : ∀ x ∈ L[i].kids, byteAt L x ≠ (c.toNat : Int) := by
        intro x hx
        cases f with
        | zero =>
          obtain ⟨a, z, rfl, rfl⟩ := h
          simp [tree] at hx
        | succ g =>
          have hkids := h.kids hi
          obtain ⟨q, hq, rfl⟩ := List.getElem_of_mem hx
          have hq' : q < (nextS ss en t).length := by rw [hkids, forest_kids] at hq; exact hq
          obtain ⟨j2, hj2, hsub2⟩ := h.kid hq'
          have hjj2 : L[i].kids[q] = (j2 : Int) := by
            have := hj2
            rw [← hkids] at this
            exact (List.getElem?_eq_some_iff.1 this).2
          rw [hjj2, byteAt_sub hsub2]
          intro e
          apply hc
          rw [← e]
          have e1 : (nextS ss en t)[q].1 = (bytesTo (begUsed ss en t ss.length) 256)[q]'(by simpa [nextS] using hq') := by simp [nextS]
          rw [e1]
          exact List.getElem_mem _
      have hgo : findGo L (i : Int) (c :: bs) = -1 := by
        unfold findGo
        rw [hgd, kidOf_none hno, if_pos (by decide)]
      refine ⟨hgo, by simp, ?_⟩
      rintro ⟨x, h1, h2⟩
      apply hc
      rw [mem_next]
      refine ⟨x, h1, ?_⟩
      unfold begB at h2 ⊢
      rw [Bool.and_eq_true, fits_iff] at h2 ⊢
      refine ⟨h2.1, List.IsPrefix.trans ?_ h2.2⟩
      rw [hu2]
      exact List.prefix_append _ _

theorem trie_sub (h : vocOkB ss en = true) : Sub (idsS ss en) (nextS ss en) (trieOf ss en) 0 6 0 ⟨#[]⟩ := ⟨[], [], by unfold trieOf; rw [h]; simp, rfl⟩
/-- What TrieFind answers on the tree of a vocabulary. -/
theorem trie_find (h : vocOkB ss en = true) (u : ByteArray) : (findR (trieOf ss en) u = -1 ∧ u.size ≠ 0 ∧ ¬ ∃ x, x < ss.length ∧ begB ss en u x = true) ∨
    ∃ (j : Nat) (hj : j < (trieOf ss en).length), findR (trieOf ss en) u = (j : Int) ∧ (trieOf ss en)[j].ids = begIds ss en u ss.length ∧ (u.size = 0 ∨ ∃ x, x < ss.length ∧ begB ss en u x = true) := by
  have hs := (vocOk_parts h).2.2.2.2
  have hf : findR (trieOf ss en) u = findGo (trieOf ss en) ((0 : Nat) : Int) u.data.toList := by unfold findR; rw [trie_tree h]; rfl
  have hz : u.data.toList = [] ↔ u.size = 0 := by
    rw [← List.length_eq_zero_iff]; simp
  rcases find_spec hs u.data.toList ⟨#[]⟩ u 0 6 0 (trie_sub h) (by decide) (by simp) with ⟨q1, q2, q3⟩ | ⟨j, f', b', q1, q2, q3⟩
  · left
    exact ⟨by rw [hf, q1], fun e => q2 (hz.2 e), q3⟩
  · right
    obtain ⟨hj, hids, _⟩ := q2.at_
    refine ⟨j, hj, by rw [hf, q1], hids, ?_⟩
    rcases q3 with q3 | q3
    · exact .inl (hz.1 q3)
    · exact .inr q3
end

end Go.Proofs.Ytcanhkngikeeiaa
