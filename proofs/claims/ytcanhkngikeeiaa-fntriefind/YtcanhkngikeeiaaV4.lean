/- The tree of pieces as the program grows it is the one that the specification grows. Plain mathematics. -/
import Derived.Test.YtcanhkngikeeiaaV3
namespace Go.Proofs.Ytcanhkngikeeiaa
open Go.Sort
set_option linter.unusedVariables false

theorem fits_iff (text p : ByteArray) : fitsB text p = true ↔ p.data.toList <+: text.data.toList := by
  unfold fitsB
  rw [ByteArray.toList_eq, ByteArray.toList_eq, Lib.extract_data]
  simp only [Bool.and_eq_true, decide_eq_true_eq, beq_iff_eq]
  have e1 : p.size = p.data.toList.length := by simp
  have e2 : text.size = text.data.toList.length := by simp
  rw [e1, e2]
  generalize p.data.toList = l
  generalize text.data.toList = m
  rw [List.prefix_iff_eq_take]
  constructor
  · rintro ⟨h1, h2⟩; rw [← h2]; simp
  · intro h
    refine ⟨?_, ?_⟩
    · have := congrArg List.length h; simp at this; omega
    · simpa using h.symm
theorem pre_iff (t : ByteArray) (x : PP) : preB t x = true ↔ t.data.toList <+: tl x := fits_iff x.1 t
theorem tl_len (x : PP) : (tl x).length = x.1.size := by simp [tl]
theorem tl_inj {x y : PP} (h : tl x = tl y) : x.1 = y.1 := by
  have : x.1.toList = y.1.toList := by rw [ByteArray.toList_eq, ByteArray.toList_eq]; exact h
  exact bytes_eq this
theorem push_toList (t : ByteArray) (c : UInt8) : (t.push c).data.toList = t.data.toList ++ [c] := by simp
theorem push_size (t : ByteArray) (c : UInt8) : (t.push c).size = t.size + 1 := by simp

theorem lt_append {t a b : List UInt8} : t ++ a < t ++ b ↔ a < b := by
  induction t with
  | nil => simp
  | cons x t ih => rw [List.cons_append, List.cons_append, List.cons_lt_cons_iff]; simp [ih]
theorem byAt_of {t : List UInt8} {x : PP} {c : UInt8} {r : List UInt8} {dep : Nat} (h : tl x = t ++ c :: r) (hd : dep = t.length) : byAt dep x = (c.toNat : Int) := by
  subst hd
  unfold byAt
  have : x.1.data.toList[t.length]? = some c := by
    show (tl x)[t.length]? = _
    rw [h]; simp
  rw [Array.getElem?_toList] at this
  simp [Array.getD_eq_getD_getElem?, this]

/-- How both look at pieces. -/
def Same (P : List PP) (s : Nat × List PP) (t : ByteArray) : Prop := s.1 = t.size ∧ s.2 = P.filter (preB t)

section
variable {ss : List ByteArray} {en : Int} {P : List PP}

theorem ends_first (hS : Srt ss en P) (t : ByteArray) : (P.filter (preB t)).Pairwise (fun x y => endsB t.size y = true → endsB t.size x = true) := by
  refine List.Pairwise.imp_of_mem ?_ (hS.asc.sublist List.filter_sublist)
  intro x y hx hy hlt he
  rw [List.mem_filter] at hx hy
  obtain ⟨rx, ex⟩ := (pre_iff t x).1 hx.2
  obtain ⟨ry, ey⟩ := (pre_iff t y).1 hy.2
  unfold endsB at he ⊢
  simp only [decide_eq_true_eq] at he ⊢
  have ly : ry = [] := by
    have := congrArg List.length ey
    rw [tl_len, List.length_append, he] at this
    have e : t.data.toList.length = t.size := by simp
    exact List.length_eq_zero_iff.1 (by omega)
  subst ly
  rw [List.append_nil] at ey
  have lx : rx = [] := by
    rw [ltL_iff, ← ex, ← ey] at hlt
    rcases hlt with h | ⟨h, _⟩
    · have : t.data.toList ++ rx < t.data.toList ++ [] := by simpa using h
      rw [lt_append] at this
      cases rx with
      | nil => rfl
      | cons a l => exact absurd this (List.not_lt_nil _)
    · simpa using h
  subst lx
  have := congrArg List.length ex
  rw [tl_len] at this
  simp at this
  exact this.symm

theorem mem_begIds {t : ByteArray} {z : Int} : ∀ {k : Nat}, z ∈ begIds ss en t k ↔ ∃ i, i < k ∧ begB ss en t i = true ∧ (pieceAt ss i).size = t.size ∧ z = (i : Int)
  | 0 => by simp [begIds]
  | k + 1 => by
    have ih := mem_begIds (t := t) (z := z) (k := k)
    unfold begIds
    split
    · rename_i h
      rw [List.mem_append, ih]
      constructor
      · rintro (⟨i, h1, h2⟩ | h1)
        · exact ⟨i, by omega, h2⟩
        · simp at h1; exact ⟨k, by omega, h.1, h.2, h1⟩
      · rintro ⟨i, h1, h2, h3, h4⟩
        by_cases e : i = k
        · subst e; right; simp [h4]
        · left; exact ⟨i, by omega, h2, h3, h4⟩
    · rename_i h
      rw [ih]
      constructor
      · rintro ⟨i, h1, h2⟩; exact ⟨i, by omega, h2⟩
      · rintro ⟨i, h1, h2, h3, h4⟩
        by_cases e : i = k
        · subst e; exact absurd ⟨h2, h3⟩ h
        · exact ⟨i, by omega, h2, h3, h4⟩
theorem begIds_rising {t : ByteArray} : ∀ k, (begIds ss en t k).Pairwise (· < ·)
  | 0 => by simp [begIds]
  | k + 1 => by
    unfold begIds
    split
    · rw [List.pairwise_append]
      refine ⟨begIds_rising k, by simp, fun x hx y hy => ?_⟩
      obtain ⟨i, h1, _, _, rfl⟩ := mem_begIds.1 hx
      simp at hy; subst hy
      omega
    · exact begIds_rising k
theorem mem_bytesTo {u : List Bool} {z : Int} : ∀ {k : Nat}, z ∈ bytesTo u k ↔ ∃ i, i < k ∧ u.getD i false = true ∧ z = (i : Int)
  | 0 => by simp [bytesTo]
  | k + 1 => by
    have ih := mem_bytesTo (u := u) (z := z) (k := k)
    unfold bytesTo
    split
    · rename_i h
      rw [List.mem_append, ih]
      constructor
      · rintro (⟨i, h1, h2⟩ | h1)
        · exact ⟨i, by omega, h2⟩
        · simp at h1; exact ⟨k, by omega, h, h1⟩
      · rintro ⟨i, h1, h2, h3⟩
        by_cases e : i = k
        · subst e; right; simp [h3]
        · left; exact ⟨i, by omega, h2, h3⟩
    · rename_i h
      rw [ih]
      constructor
      · rintro ⟨i, h1, h2⟩; exact ⟨i, by omega, h2⟩
      · rintro ⟨i, h1, h2, h3⟩
        by_cases e : i = k
        · subst e; exact absurd h2 h
        · exact ⟨i, by omega, h2, h3⟩
theorem bytesTo_rising {u : List Bool} : ∀ k, (bytesTo u k).Pairwise (· < ·)
  | 0 => by simp [bytesTo]
  | k + 1 => by
    unfold bytesTo
    split
    · rw [List.pairwise_append]
      refine ⟨bytesTo_rising k, by simp, fun x hx y hy => ?_⟩
      obtain ⟨i, h1, _, rfl⟩ := mem_bytesTo.1 hx
      simp at hy; subst hy
      omega
    · exact bytesTo_rising k
theorem goesOn_lt (t p : ByteArray) : goesOn t p < 256 := by unfold goesOn; exact (p.data.getD t.size 0).toNat_lt
theorem used_iff {t : ByteArray} {n : Nat} (hn : n < 256) : ∀ {k : Nat}, (begUsed ss en t k).getD n false = true ↔ ∃ i, i < k ∧ begB ss en t i = true ∧ (pieceAt ss i).size ≠ t.size ∧ goesOn t (pieceAt ss i) = n
  | 0 => by
    have e : (begUsed ss en t 0).getD n false = false := by
      unfold begUsed
      rw [List.getD_eq_getElem?_getD, List.getElem?_replicate]
      split <;> rfl
    rw [e]
    simp
  | k + 1 => by
    have ih := used_iff (t := t) hn (k := k)
    have hlen := begUsed_length ss en t k
    unfold begUsed
    split
    · rename_i h
      have e0 : ((begUsed ss en t k).set (goesOn t (pieceAt ss k)) true).getD n false = true ↔ (goesOn t (pieceAt ss k) = n ∨ (begUsed ss en t k).getD n false = true) := by
        rw [List.getD_eq_getElem?_getD, List.getElem?_set]
        by_cases e : goesOn t (pieceAt ss k) = n
        · rw [if_pos e, if_pos (by have := goesOn_lt t (pieceAt ss k); omega)]; simp [e]
        · rw [if_neg e]; simp [e, List.getD_eq_getElem?_getD]
      rw [e0, ih]
      constructor
      · rintro (h1 | ⟨i, h1, h2⟩)
        · exact ⟨k, by omega, h.1, h.2, h1⟩
        · exact ⟨i, by omega, h2⟩
      · rintro ⟨i, h1, h2, h3, h4⟩
        by_cases e : i = k
        · subst e; left; exact h4
        · right; exact ⟨i, by omega, h2, h3, h4⟩
    · rename_i h
      rw [ih]
      constructor
      · rintro ⟨i, h1, h2⟩; exact ⟨i, by omega, h2⟩
      · rintro ⟨i, h1, h2, h3, h4⟩
        by_cases e : i = k
        · subst e; exact absurd ⟨h2, h3⟩ h
        · exact ⟨i, by omega, h2, h3, h4⟩

theorem same_ids (hS : Srt ss en P) (t : ByteArray) : idsI (t.size, P.filter (preB t)) = idsS ss en t := by
  unfold idsI idsS
  simp only
  rw [(while_filter _ _ (ends_first hS t)).1]
  refine rising_eq _ _ ?_ (begIds_rising _) (fun z => ?_)
  · rw [List.pairwise_map]
    refine List.Pairwise.imp_of_mem ?_ ((hS.asc.sublist List.filter_sublist).sublist List.filter_sublist)
    intro x y hx hy hlt
    rw [List.mem_filter, List.mem_filter] at hx hy
    have e : ∀ z : PP, preB t z = true → endsB t.size z = true → tl z = t.data.toList := fun z h1 h2 => by
      have hp := (pre_iff t z).1 h1
      unfold endsB at h2
      simp only [decide_eq_true_eq] at h2
      exact (hp.eq_of_length (by rw [tl_len, h2]; simp)).symm
    rw [ltL_iff] at hlt
    rcases hlt with h | ⟨_, h⟩
    · rw [e x hx.1.2 hx.2, e y hy.1.2 hy.2] at h; exact absurd h (List.lt_irrefl _)
    · exact h
  · rw [mem_begIds, List.mem_map]
    constructor
    · rintro ⟨x, hx, rfl⟩
      rw [List.mem_filter, List.mem_filter] at hx
      obtain ⟨i, h1, h2, rfl⟩ := (hS.mem x).1 hx.1.1
      refine ⟨i, h1, ?_, ?_, rfl⟩
      · unfold begB; rw [h2]; exact hx.1.2
      · have := hx.2; unfold endsB at this; simpa using this
    · rintro ⟨i, h1, h2, h3, rfl⟩
      unfold begB at h2
      rw [Bool.and_eq_true] at h2
      refine ⟨(pieceAt ss i, (i : Int)), ?_, rfl⟩
      rw [List.mem_filter, List.mem_filter]
      exact ⟨⟨(hS.mem _).2 ⟨i, h1, h2.1, rfl⟩, h2.2⟩, by unfold endsB; simpa using h3⟩

theorem split_at {t : ByteArray} {x : PP} (h : preB t x = true) (he : endsB t.size x = false) : ∃ c r, tl x = t.data.toList ++ c :: r := by
  obtain ⟨r, hr⟩ := (pre_iff t x).1 h
  cases r with
  | nil =>
    have := congrArg List.length hr
    rw [tl_len] at this
    unfold endsB at he
    simp at this he
    omega
  | cons c r => exact ⟨c, r, hr.symm⟩

theorem same_next (hS : Srt ss en P) (t : ByteArray) : ∃ (l : List Int) (g1 : Int → Nat × List PP) (g2 : Int → ByteArray), nextI (t.size, P.filter (preB t)) = l.map (fun c => (c, g1 c)) ∧ nextS ss en t = l.map (fun c => (c, g2 c)) ∧ ∀ c ∈ l, Same P (g1 c) (g2 c) := by
  have hB : (P.filter (preB t)).dropWhile (endsB t.size) = (P.filter (preB t)).filter (fun x => !endsB t.size x) := (while_filter _ _ (ends_first hS t)).2
  have hp : ((P.filter (preB t)).filter (fun x => !endsB t.size x)).Pairwise (fun x y => byAt t.size x ≤ byAt t.size y) := by
    refine List.Pairwise.imp_of_mem ?_ ((hS.asc.sublist List.filter_sublist).sublist List.filter_sublist)
    intro x y hx hy hlt
    rw [List.mem_filter, List.mem_filter] at hx hy
    obtain ⟨c, r, ex⟩ := split_at hx.1.2 (by simpa using hx.2)
    obtain ⟨c', r', ey⟩ := split_at hy.1.2 (by simpa using hy.2)
    rw [byAt_of ex (by simp), byAt_of ey (by simp)]
    rw [ltL_iff, ex, ey] at hlt
    rcases hlt with h | ⟨h, _⟩
    · rw [lt_append, List.cons_lt_cons_iff] at h
      rcases h with h | ⟨h, _⟩
      · have := UInt8.lt_iff_toNat_lt.1 h; omega
      · subst h; exact Int.le_refl _
    · have := List.append_cancel_left h
      injection this with h1 _
      subst h1; exact Int.le_refl _
  obtain ⟨i1, i2, i3⟩ := groups_form t.size (P.filter (preB t)).length ((P.filter (preB t)).filter (fun x => !endsB t.size x)) (List.length_filter_le _ _) hp
  have hG : (groups t.size (P.filter (preB t)).length ((P.filter (preB t)).filter (fun x => !endsB t.size x))).map (·.1) = bytesTo (begUsed ss en t ss.length) 256 := by
    refine rising_eq _ _ i2 (bytesTo_rising _) (fun c => ?_)
    rw [i3, mem_bytesTo]
    constructor
    · rintro ⟨y, hy, rfl⟩
      rw [List.mem_filter, List.mem_filter] at hy
      obtain ⟨i, h1, h2, rfl⟩ := (hS.mem y).1 hy.1.1
      have hlt := goesOn_lt t (pieceAt ss i)
      refine ⟨goesOn t (pieceAt ss i), hlt, ?_, rfl⟩
      rw [used_iff hlt]
      refine ⟨i, h1, ?_, ?_, rfl⟩
      · unfold begB; rw [h2]; exact hy.1.2
      · have := hy.2; unfold endsB at this; simpa using this
    · rintro ⟨n, hn, h, rfl⟩
      rw [used_iff hn] at h
      obtain ⟨i, h1, h2, h3, h4⟩ := h
      unfold begB at h2
      rw [Bool.and_eq_true] at h2
      refine ⟨(pieceAt ss i, (i : Int)), ?_, ?_⟩
      · rw [List.mem_filter, List.mem_filter]
        exact ⟨⟨(hS.mem _).2 ⟨i, h1, h2.1, rfl⟩, h2.2⟩, by unfold endsB; simpa using h3⟩
      · unfold byAt; unfold goesOn at h4; rw [← h4]
  refine ⟨bytesTo (begUsed ss en t ss.length) 256, fun c => (t.size + 1, ((P.filter (preB t)).filter (fun x => !endsB t.size x)).filter (fun y => byAt t.size y == c)), fun c => t.push c.toNat.toUInt8, ?_, rfl, fun c hc => ⟨?_, ?_⟩⟩
  · unfold nextI
    simp only
    rw [hB]
    conv => lhs; rw [i1, hG]
  · simp
  · obtain ⟨n, hn, _, rfl⟩ := mem_bytesTo.1 hc
    simp only
    rw [List.filter_filter, List.filter_filter]
    refine List.filter_congr (fun x hx => ?_)
    rw [Bool.eq_iff_iff]
    simp only [Bool.and_eq_true, Bool.not_eq_true', beq_iff_eq]
    rw [pre_iff (t.push _), push_toList]
    constructor
    · rintro ⟨⟨h1, h2⟩, h3⟩
      obtain ⟨c, r, ex⟩ := split_at h3 h2
      rw [byAt_of ex (by simp)] at h1
      have hc : c = n.toUInt8 := by
        apply UInt8.toNat.inj
        simp
        omega
      rw [ex, hc]
      exact ⟨r, by simp⟩
    · rintro ⟨r, hr⟩
      have ex : tl x = t.data.toList ++ n.toUInt8 :: r := by rw [← hr]; simp
      refine ⟨⟨?_, ?_⟩, ?_⟩
      · rw [byAt_of ex (by simp)]; simp; omega
      · unfold endsB
        have := congrArg List.length ex
        rw [tl_len] at this
        simp at this ⊢
        omega
      · rw [pre_iff, ex]; exact List.prefix_append _ _

/-- Both grow the same tree. -/
theorem same_tree (hS : Srt ss en P) (f base : Nat) (b : Int) (t : ByteArray) : tree idsI nextI f base b (t.size, P.filter (preB t)) = tree (idsS ss en) (nextS ss en) f base b t := by
  refine tree_congr (Same P) ?_ f base b _ t ⟨rfl, rfl⟩
  rintro ⟨dep, ps⟩ t ⟨rfl, rfl⟩
  exact ⟨same_ids hS t, same_next hS t⟩
theorem pre_empty (x : PP) : preB ⟨#[]⟩ x = true := by rw [pre_iff]; exact List.nil_prefix
theorem same_root (hS : Srt ss en P) (f : Nat) : tree idsI nextI f 0 0 (0, P) = tree (idsS ss en) (nextS ss en) f 0 0 ⟨#[]⟩ := by
  have := same_tree hS f 0 0 ⟨#[]⟩
  rw [List.filter_eq_self.2 (fun x _ => pre_empty x)] at this
  exact this
end

end Go.Proofs.Ytcanhkngikeeiaa
