/- Plain facts of the tree of a vocabulary: it is a tree; how many pieces end in it. -/
import Derived.Test.YtcanhkngikeeiaaV8
import Derived.Test.YtcanhkngikeeiaaN9
namespace Go.Proofs.Ytcanhkngikeeiaa
open Go.RowKit
set_option linter.unusedVariables false

/-- All kids of nodes. -/
def allKids (ns : List Node) : List Int := ns.flatMap (·.kids)
theorem allKids_append (l l' : List Node) : allKids (l ++ l') = allKids l ++ allKids l' := by simp [allKids]
theorem allKids_cons (n : Node) (l : List Node) : allKids (n :: l) = n.kids ++ allKids l := by simp [allKids]
/-- The numbers from one on. -/
def rngI (a n : Nat) : List Int := (List.range' a n).map (fun (x : Nat) => (x : Int))
theorem rngI_add (a n m : Nat) : rngI a (n + m) = rngI a n ++ rngI (a + n) m := by
  unfold rngI
  rw [← List.map_append, List.range'_append_1]
theorem rngI_one (a n : Nat) : rngI a (n + 1) = (a : Int) :: rngI (a + 1) n := by simp [rngI, List.range'_succ]
theorem mem_rngI {a n : Nat} {x : Int} : x ∈ rngI a n ↔ ∃ k : Nat, x = k ∧ a ≤ k ∧ k < a + n := by
  unfold rngI
  rw [List.mem_map]
  constructor
  · rintro ⟨k, hk, rfl⟩
    rw [List.mem_range'_1] at hk
    exact ⟨k, rfl, hk.1, hk.2⟩
  · rintro ⟨k, rfl, h1, h2⟩
    exact ⟨k, List.mem_range'_1.2 ⟨h1, h2⟩, rfl⟩
theorem rngI_nodup (a n : Nat) : (rngI a n).Nodup := by
  unfold rngI
  rw [List.Nodup, List.pairwise_map]
  exact List.Pairwise.imp (fun h e => h (by omega)) (List.nodup_range' (s := a) (n := n))

section
variable {σ : Type} (ids : σ → List Int) (next : σ → List (Int × σ))

theorem forest_perm {tr : Nat → Int → σ → List Node} (ht : ∀ base b s, ∃ m, (tr base b s).length = m + 1 ∧ (allKids (tr base b s)).Perm (rngI (base + 1) m)) : ∀ (l : List (Int × σ)) (base : Nat), ((forest tr base l).1 ++ allKids (forest tr base l).2).Perm (rngI base (forest tr base l).2.length)
  | [], base => by simp [forest_nil, allKids, rngI]
  | x :: l, base => by
    rw [forest_cons]
    obtain ⟨m, h1, h2⟩ := ht base x.1 x.2
    have ih := forest_perm ht l (base + (tr base x.1 x.2).length)
    simp only
    rw [List.length_append, allKids_append, h1, rngI_add, rngI_one]
    rw [h1] at ih
    rw [List.cons_append]
    refine List.Perm.cons _ ?_
    refine (List.perm_append_comm_assoc _ _ _).trans ?_
    exact List.Perm.append h2 ih
theorem tree_perm : ∀ (f base : Nat) (b : Int) (s : σ), ∃ m, (tree ids next f base b s).length = m + 1 ∧ (allKids (tree ids next f base b s)).Perm (rngI (base + 1) m)
  | 0, base, b, s => ⟨0, rfl, by simp [tree, allKids, rngI]⟩
  | f + 1, base, b, s => by
    refine ⟨(forest (tree ids next f) (base + 1) (next s)).2.length, ?_, ?_⟩
    · unfold tree; simp
    · unfold tree
      rw [allKids_cons]
      exact forest_perm (tree_perm f) (next s) (base + 1)

/-- Kids stand behind their node. -/
def Behind (base : Nat) (ns : List Node) : Prop := ∀ j (h : j < ns.length), ∀ x ∈ ns[j].kids, ((base + j : Nat) : Int) < x
theorem Behind.append {base : Nat} {l l' : List Node} (h : Behind base l) (h' : Behind (base + l.length) l') : Behind base (l ++ l') := by
  intro j hj x hx
  by_cases c : j < l.length
  · rw [List.getElem_append_left c] at hx; exact h j c x hx
  · rw [List.getElem_append_right (by omega)] at hx
    have := h' (j - l.length) (by simp at hj; omega) x hx
    omega
theorem forest_behind {tr : Nat → Int → σ → List Node} (ht : ∀ base b s, Behind base (tr base b s)) : ∀ (l : List (Int × σ)) (base : Nat), Behind base (forest tr base l).2 ∧ ∀ x ∈ (forest tr base l).1, (base : Int) ≤ x
  | [], base => ⟨fun j h => by simp [forest_nil] at h, fun x hx => by simp [forest_nil] at hx⟩
  | y :: l, base => by
    rw [forest_cons]
    obtain ⟨i1, i2⟩ := forest_behind ht l (base + (tr base y.1 y.2).length)
    refine ⟨(ht base y.1 y.2).append i1, fun x hx => ?_⟩
    rcases List.mem_cons.1 hx with rfl | hx
    · exact Int.le_refl _
    · have := i2 x hx; omega
theorem tree_behind : ∀ (f base : Nat) (b : Int) (s : σ), Behind base (tree ids next f base b s)
  | 0, base, b, s => fun j hj x hx => by
    unfold tree at hj hx
    simp only [List.length_cons, List.length_nil] at hj
    obtain rfl : j = 0 := by omega
    simp at hx
  | f + 1, base, b, s => by
    unfold tree
    obtain ⟨i1, i2⟩ := forest_behind (tree_behind f) (next s) (base + 1)
    intro j hj x hx
    cases j with
    | zero =>
      simp only [List.getElem_cons_zero] at hx
      have := i2 x hx; omega
    | succ j =>
      simp only [List.getElem_cons_succ] at hx
      simp only [List.length_cons] at hj
      have := i1 j (by omega) x hx
      omega
end

theorem kidsGo_some {n node : Nat} : ∀ (xs : List Int) (s : List Bool), s.length = n → (∀ x ∈ xs, (node : Int) < x ∧ x < n) → xs.Nodup → (∀ x ∈ xs, s.getD x.toNat false = false) → ∃ t, kidsGo n node xs s = some t ∧ t.length = n ∧ ∀ k, t.getD k false = true → s.getD k false = true ∨ (k : Int) ∈ xs
  | [], s, hs, _, _, _ => ⟨s, rfl, hs, fun k h => .inl h⟩
  | x :: xs, s, hs, h1, h2, h3 => by
    obtain ⟨a1, a2⟩ := h1 x (by simp)
    have a3 := h3 x (by simp)
    rw [List.nodup_cons] at h2
    have hset : ∀ k, (s.set x.toNat true).getD k false = true → s.getD k false = true ∨ (k : Int) = x := by
      intro k hk
      rw [List.getD_eq_getElem?_getD, List.getElem?_set] at hk
      by_cases e : x.toNat = k
      · right; omega
      · rw [if_neg e] at hk; left; rw [List.getD_eq_getElem?_getD]; exact hk
    obtain ⟨t, t1, t2, t3⟩ := kidsGo_some (n := n) (node := node) xs (s.set x.toNat true) (by simpa using hs) (fun y hy => h1 y (by simp [hy])) h2.2 (fun y hy => by
      cases q : (s.set x.toNat true).getD y.toNat false with
      | false => rfl
      | true =>
        rcases hset _ q with q | q
        · rw [h3 y (by simp [hy])] at q; cases q
        · have := (h1 y (by simp [hy])).1
          have e : y = x := by omega
          subst e
          exact absurd hy h2.1)
    refine ⟨t, ?_, t2, fun k hk => ?_⟩
    · unfold kidsGo
      rw [if_pos ⟨a1, a2, a3⟩]
      exact t1
    · rcases t3 k hk with q | q
      · rcases hset _ q with q | q
        · exact .inl q
        · right; rw [q]; simp
      · right; simp [q]
theorem treeGo_some {n : Nat} : ∀ (ns : List Node) (i : Nat) (s : List Bool), s.length = n → (∀ j (h : j < ns.length), ∀ x ∈ ns[j].kids, ((i + j : Nat) : Int) < x ∧ x < n) → (allKids ns).Nodup → (∀ x ∈ allKids ns, s.getD x.toNat false = false) → (treeGo n i ns s).isSome = true
  | [], i, s, _, _, _, _ => rfl
  | nd :: ns, i, s, hs, h1, h2, h3 => by
    rw [allKids_cons] at h2 h3
    rw [List.nodup_append] at h2
    obtain ⟨t, t1, t2, t3⟩ := kidsGo_some (n := n) (node := i) nd.kids s hs (fun x hx => h1 0 (by simp) x hx) h2.1 (fun x hx => h3 x (by simp [hx]))
    unfold treeGo
    rw [t1]
    refine treeGo_some ns (i + 1) t t2 (fun j hj x hx => ?_) h2.2.1 (fun x hx => ?_)
    · have := h1 (j + 1) (by simpa using hj) x (by simpa using hx)
      omega
    · cases q : t.getD x.toNat false with
      | false => rfl
      | true =>
        rcases t3 _ q with q | q
        · rw [h3 x (by simp [hx])] at q; cases q
        · have hx0 : 0 ≤ x := by
            obtain ⟨nd', hn, hx'⟩ := List.mem_flatMap.1 hx
            obtain ⟨j, hj, rfl⟩ := List.getElem_of_mem hn
            have := (h1 (j + 1) (by simpa using hj) x (by simpa using hx')).1
            omega
          have e : ((x.toNat : Nat) : Int) = x := by omega
          rw [e] at q
          exact absurd rfl (h2.2.2 x q x hx)

theorem trie_len {ss : List ByteArray} {en : Int} (h : vocOkB ss en = true) : 1 ≤ (trieOf ss en).length ∧ (trieOf ss en).length ≤ 241 := by
  obtain ⟨P, hS⟩ := srt_ex ss en
  have h1 := trie_size h hS
  rw [same_root hS 6] at h1
  have e : trieOf ss en = tree (idsS ss en) (nextS ss en) 6 0 0 ⟨#[]⟩ := by unfold trieOf; rw [h]; rfl
  rw [e]
  obtain ⟨m, hm, _⟩ := tree_perm (idsS ss en) (nextS ss en) 6 0 0 ⟨#[]⟩
  omega
theorem trie_kids {ss : List ByteArray} {en : Int} (h : vocOkB ss en = true) : (allKids (trieOf ss en)).Perm (rngI 1 ((trieOf ss en).length - 1)) ∧ Behind 0 (trieOf ss en) := by
  have e : trieOf ss en = tree (idsS ss en) (nextS ss en) 6 0 0 ⟨#[]⟩ := by unfold trieOf; rw [h]; rfl
  rw [e]
  obtain ⟨m, hm, hp⟩ := tree_perm (idsS ss en) (nextS ss en) 6 0 0 ⟨#[]⟩
  refine ⟨?_, tree_behind _ _ _ _ _ _⟩
  rw [hm]
  simpa using hp
theorem trie_in {ss : List ByteArray} {en : Int} (h : vocOkB ss en = true) {j : Nat} (hj : j < (trieOf ss en).length) : ∀ x ∈ (trieOf ss en)[j].kids, (j : Int) < x ∧ x < (trieOf ss en).length := by
  obtain ⟨h1, h2⟩ := trie_kids h
  intro x hx
  refine ⟨by have := h2 j hj x hx; simpa using this, ?_⟩
  have hm : x ∈ allKids (trieOf ss en) := List.mem_flatMap.2 ⟨_, List.getElem_mem hj, hx⟩
  rw [h1.mem_iff, mem_rngI] at hm
  obtain ⟨k, rfl, _, hk⟩ := hm
  omega
theorem trie_tree {ss : List ByteArray} {en : Int} (h : vocOkB ss en = true) : treeB (trieOf ss en) = true := by
  obtain ⟨h1, h2⟩ := trie_len h
  obtain ⟨h3, h4⟩ := trie_kids h
  unfold treeB treeT
  rw [treeGo_some _ 0 _ (by simp) (fun j hj x hx => by have := trie_in h hj x hx; simpa using this) (h3.nodup_iff.2 (rngI_nodup _ _)) (fun x hx => by
    rw [List.getD_eq_getElem?_getD, List.getElem?_replicate]
    split <;> rfl)]
  simp [h1, h2]
theorem kids_len {n : Node} : ∀ {ns : List Node}, n ∈ ns → n.kids.length ≤ (allKids ns).length
  | x :: l, h => by
    rw [allKids_cons, List.length_append]
    rcases List.mem_cons.1 h with rfl | h
    · omega
    · have := kids_len h; omega
theorem forest_ids {σ : Type} (ids : σ → List Int) {tr : Nat → Int → σ → List Node} (ht : ∀ base b s, ∀ n ∈ tr base b s, ∃ s', n.ids = ids s') : ∀ (l : List (Int × σ)) (base : Nat), ∀ n ∈ (forest tr base l).2, ∃ s', n.ids = ids s'
  | [], base, n, hn => by simp [forest_nil] at hn
  | y :: l, base, n, hn => by
    rw [forest_cons] at hn
    rcases List.mem_append.1 hn with h | h
    · exact ht _ _ _ n h
    · exact forest_ids ids ht l _ n h
theorem tree_ids {σ : Type} (ids : σ → List Int) (next : σ → List (Int × σ)) : ∀ (f base : Nat) (b : Int) (s : σ), ∀ n ∈ tree ids next f base b s, ∃ s', n.ids = ids s'
  | 0, base, b, s, n, hn => by
    unfold tree at hn
    rw [List.mem_singleton] at hn
    exact ⟨s, by rw [hn]⟩
  | f + 1, base, b, s, n, hn => by
    unfold tree at hn
    rcases List.mem_cons.1 hn with h | h
    · exact ⟨s, by rw [h]⟩
    · exact forest_ids ids (tree_ids ids next f) _ _ n h
theorem trie_small {ss : List ByteArray} {en : Int} : Small (trieOf ss en) := by
  intro n hn
  cases h : vocOkB ss en with
  | false => unfold trieOf at hn; rw [h] at hn; simp at hn
  | true =>
    obtain ⟨h1, h2⟩ := trie_len h
    obtain ⟨h3, h4⟩ := trie_kids h
    obtain ⟨j, hj, rfl⟩ := List.getElem_of_mem hn
    refine ⟨?_, ?_⟩
    · have := h3.length_eq
      have e : (rngI 1 ((trieOf ss en).length - 1)).length = (trieOf ss en).length - 1 := by simp [rngI]
      rw [e] at this
      have q := kids_len (List.getElem_mem hj)
      omega
    · have e : trieOf ss en = tree (idsS ss en) (nextS ss en) 6 0 0 ⟨#[]⟩ := by unfold trieOf; rw [h]; rfl
      have key : ∀ n ∈ trieOf ss en, ∃ s', n.ids = idsS ss en s' := by rw [e]; exact tree_ids (idsS ss en) (nextS ss en) 6 0 0 ⟨#[]⟩
      obtain ⟨s', hs'⟩ := key _ hn
      rw [hs']
      have := begIds_length ss en s' ss.length
      have := (vocOk_parts h).2.1
      unfold idsS
      omega

theorem trie_root {ss : List ByteArray} {en : Int} (h : vocOkB ss en = true) (h0 : 0 < (trieOf ss en).length) : (trieOf ss en)[0].byte = 0 ∧ (trieOf ss en)[0].ids = [] := by
  have e : trieOf ss en = tree (idsS ss en) (nextS ss en) 6 0 0 ⟨#[]⟩ := by unfold trieOf; rw [h]; rfl
  have hi : idsS ss en ⟨#[]⟩ = [] := by
    unfold idsS
    rw [List.eq_nil_iff_forall_not_mem]
    intro z hz
    obtain ⟨i, h1, h2, h3, _⟩ := mem_begIds.1 hz
    unfold begB plainB at h2
    simp only [Bool.and_eq_true, decide_eq_true_eq] at h2
    have : (⟨#[]⟩ : ByteArray).size = 0 := rfl
    omega
  have key : ∀ (L : List Node) (hL : 0 < L.length), L = tree (idsS ss en) (nextS ss en) 6 0 0 ⟨#[]⟩ → L[0].byte = 0 ∧ L[0].ids = [] := by
    rintro L hL rfl
    exact ⟨rfl, hi⟩
  exact key _ h0 e
theorem trie_none {ss : List ByteArray} {en : Int} (h : vocOkB ss en = false) : trieOf ss en = [] := by unfold trieOf; rw [h]; rfl

/-- What a law of trees has in memory: the vocabulary's block, its pieces. -/
structure TL (w0 : World) (V : Nat) (en : Int) (ss : List ByteArray) (A : Option Addr) (cap : Nat) (w : World) : Prop where
  v : Own w V 25 [.slice A ss.length cap, .int .i64 en]
  p : Row w A (strs ss)
  b : Below w0.heap.size w0 w
section
variable {w0 w w' : World} {V : Nat} {en : Int} {ss : List ByteArray} {A : Option Addr} {cap : Nat}
theorem TL.keep (h : TL w0 V en ss A cap w) (hb : Below w.heap.size w w') : TL w0 V en ss A cap w' := ⟨h.v.keep hb, h.p.keep hb, h.b.trans (hb.mono h.b.size)⟩
theorem TL.c0 (h : TL w0 V en ss A cap w) : w.cell? ⟨V, 0, none⟩ = some (.slice A ss.length cap) := by rw [h.v.cell]; rfl
theorem TL.c1 (h : TL w0 V en ss A cap w) : w.cell? ⟨V, 1, none⟩ = some (.int .i64 en) := by rw [h.v.cell]; rfl
end

end Go.Proofs.Ytcanhkngikeeiaa
