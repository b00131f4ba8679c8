/- Least lengths, plain: whatever is reached from none by lessening, and can be lessened no more, is one and the same. -/
import Derived.Test.YtafldjbmheopjaaC5
namespace Go.Proofs.Ytafldjbmheopjaa
open Go.RowKit
set_option linter.unusedVariables false

/-- What a list has for a head; -1 if it has none. -/
def at_ (L : List Int) (h : Int) : Int := L.getD h.toNat (-1)

def sumGo (L : List Int) : List Sy → Int → Int
  | [], n => n
  | s :: r, n => if s.head < 0 then sumGo L r (n + 1) else if at_ L s.head < 0 then -1 else sumGo L r (min (n + at_ L s.head) 9999)
def sumOf (L : List Int) (b : List Sy) : Int := sumGo L b 0

theorem sumGo_at (L : List Int) (b : List Sy) (k : Nat) (h : k < b.length) (n : Int) :
    sumGo L (b.drop k) n = if b[k].head < 0 then sumGo L (b.drop (k + 1)) (n + 1) else if at_ L b[k].head < 0 then -1 else sumGo L (b.drop (k + 1)) (min (n + at_ L b[k].head) 9999) := by
  rw [List.drop_eq_getElem_cons h]; rfl

theorem sumGo_bound (L : List Int) : ∀ (b : List Sy) (n : Int) (c : Nat), 0 ≤ n → n ≤ 9999 + c → sumGo L b n = -1 ∨ (0 ≤ sumGo L b n ∧ sumGo L b n ≤ 9999 + c + b.length)
  | [], n, c, h0, h1 => by right; simp [sumGo]; omega
  | s :: r, n, c, h0, h1 => by
    unfold sumGo
    by_cases e : s.head < 0
    · rw [if_pos e]
      rcases sumGo_bound L r (n + 1) (c + 1) (by omega) (by omega) with h | h
      · exact .inl h
      · right; simp at h ⊢; omega
    · rw [if_neg e]
      by_cases e2 : at_ L s.head < 0
      · rw [if_pos e2]; exact .inl rfl
      · rw [if_neg e2]
        rcases sumGo_bound L r (min (n + at_ L s.head) 9999) 0 (by omega) (by omega) with h | h
        · exact .inl h
        · right; simp at h ⊢; omega
theorem sumOf_bound (L : List Int) (b : List Sy) (h : b.length ≤ 160) : sumOf L b = -1 ∨ (0 ≤ sumOf L b ∧ sumOf L b ≤ 10159) := by
  rcases sumGo_bound L b 0 0 (by omega) (by omega) with e | e
  · exact .inl e
  · right; unfold sumOf; omega

def val (x : Int) : Int := if x < 0 then 20000 else x
theorem val_neg {x : Int} (h : x < 0) : val x = 20000 := if_pos h
theorem val_pos {x : Int} (h : ¬ x < 0) : val x = x := if_neg h

def Good (L : List Int) : Prop := ∀ h, -1 ≤ at_ L h ∧ at_ L h ≤ 10159
def Le (F L : List Int) : Prop := ∀ h, val (at_ F h) ≤ val (at_ L h)

theorem sumGo_mono {F L : List Int} (hL : Good L) (h : Le F L) : ∀ (b : List Sy) (n m : Int) (c : Nat), 0 ≤ n → n ≤ m → m ≤ 9999 + c → c + b.length ≤ 160 → val (sumGo F b n) ≤ val (sumGo L b m)
  | [], n, m, c, h0, h1, h2, h3 => by
    simp only [sumGo]
    rw [val_pos (by omega), val_pos (by omega)]; omega
  | s :: r, n, m, c, h0, h1, h2, h3 => by
    simp only [List.length_cons] at h3
    have hb := sumGo_bound F (s :: r) n c h0 (by omega)
    have hv : val (sumGo F (s :: r) n) ≤ 20000 := by
      simp only [List.length_cons] at hb
      rcases hb with e | e
      · rw [e]; exact Int.le_refl _
      · rw [val_pos (by omega)]; omega
    unfold sumGo at hv ⊢
    by_cases e : s.head < 0
    · rw [if_pos e, if_pos e]
      exact sumGo_mono hL h r (n + 1) (m + 1) (c + 1) (by omega) (by omega) (by omega) (by omega)
    · rw [if_neg e] at hv ⊢
      rw [if_neg e]
      by_cases e2 : at_ L s.head < 0
      · rw [if_pos e2, val_neg (x := -1) (by omega)]; exact hv
      · rw [if_neg e2]
        have h5 := h s.head
        rw [val_pos e2] at h5
        have h6 := (hL s.head).2
        by_cases e3 : at_ F s.head < 0
        · rw [val_neg e3] at h5; omega
        · rw [if_neg e3]
          rw [val_pos e3] at h5
          exact sumGo_mono hL h r (min (n + at_ F s.head) 9999) (min (m + at_ L s.head) 9999) 0 (by omega) (by omega) (by omega) (by omega)

/-- Whether a production lessens its head. -/
def Less (L : List Int) (p : Pd) : Prop := 0 ≤ sumOf L p.body ∧ (at_ L p.head < 0 ∨ sumOf L p.body < at_ L p.head)
def StableAt (L : List Int) (p : Pd) : Prop := ¬ Less L p
instance (L : List Int) (p : Pd) : Decidable (Less L p) := by unfold Less; infer_instance

inductive Reach (hd : Nat) (ps : List Pd) : List Int → Prop
  | start : Reach hd ps (List.replicate hd (-1))
  | step (L : List Int) (p : Pd) : Reach hd ps L → p ∈ ps → Less L p → Reach hd ps (L.set p.head.toNat (sumOf L p.body))

/-- What is asked of productions. -/
def Fit (hd : Nat) (ps : List Pd) : Prop := ∀ p ∈ ps, 0 ≤ p.head ∧ p.head < hd ∧ p.body.length ≤ 160 ∧ ∀ s ∈ p.body, s.head = -1 ∨ (0 ≤ s.head ∧ s.head < hd)

theorem at_set {L : List Int} {i : Nat} {x : Int} (h : i < L.length) (k : Int) : at_ (L.set i x) k = if k.toNat = i then x else at_ L k := by
  unfold at_
  rw [List.getD_eq_getElem?_getD, List.getD_eq_getElem?_getD, List.getElem?_set]
  by_cases e : i = k.toNat
  · subst e; simp [h]
  · rw [if_neg e, if_neg (by omega)]
theorem at_replicate (n : Nat) (k : Int) : at_ (List.replicate n (-1)) k = -1 := by
  unfold at_
  rw [List.getD_eq_getElem?_getD, List.getElem?_replicate]
  split <;> rfl

section
variable {hd : Nat} {ps : List Pd} {L F : List Int}
theorem Reach.length (h : Reach hd ps L) : L.length = hd := by
  induction h with
  | start => simp
  | step L p _ _ _ ih => simpa using ih
theorem Reach.good (hf : Fit hd ps) (h : Reach hd ps L) : Good L := by
  induction h with
  | start => intro k; rw [at_replicate]; omega
  | step L p hr hp hl ih =>
    intro k
    obtain ⟨h0, h1, h2, _⟩ := hf p hp
    rw [at_set (by rw [hr.length]; omega)]
    split
    · have := sumOf_bound L p.body h2
      have := hl.1
      omega
    · exact ih k
theorem Reach.le (hf : Fit hd ps) (hF : ∀ p ∈ ps, StableAt F p) (gF : Good F) (h : Reach hd ps L) : Le F L := by
  induction h with
  | start => intro k; rw [at_replicate, val_neg (x := -1) (by omega)]; have := gF k; unfold val; split <;> omega
  | step L p hr hp hl ih =>
    intro k
    obtain ⟨h0, h1, h2, _⟩ := hf p hp
    rw [at_set (by rw [hr.length]; omega)]
    split
    · rename_i e
      have hm := sumGo_mono (hr.good hf) ih p.body 0 0 0 (by omega) (by omega) (by omega) (by omega)
      have hs := hF p hp
      unfold StableAt Less at hs
      have ek : at_ F k = at_ F p.head := by unfold at_; rw [e]
      rw [ek]
      unfold sumOf at hs ⊢
      rcases sumGo_bound F p.body 0 0 (by omega) (by omega) with e1 | ⟨e1, e2⟩
      · rw [e1, val_neg (x := -1) (by omega)] at hm
        have := gF p.head
        refine Int.le_trans ?_ hm
        unfold val; split <;> omega
      · rw [val_pos (x := sumGo F p.body 0) (by omega)] at hm
        have h3 : ¬ at_ F p.head < 0 := fun h => hs ⟨e1, .inl h⟩
        have h4 : ¬ sumGo F p.body 0 < at_ F p.head := fun h => hs ⟨e1, .inr h⟩
        rw [val_pos h3]
        omega
    · exact ih k

/-- The one that can be lessened no more. -/
theorem Reach.one (hf : Fit hd ps) {L1 L2 : List Int} (h1 : Reach hd ps L1) (s1 : ∀ p ∈ ps, StableAt L1 p) (h2 : Reach hd ps L2) (s2 : ∀ p ∈ ps, StableAt L2 p) : L1 = L2 := by
  have a := h2.le hf s1 (h1.good hf)
  have b := h1.le hf s2 (h2.good hf)
  have g1 := h1.good hf
  have g2 := h2.good hf
  apply List.ext_getElem (by rw [h1.length, h2.length])
  intro i hi1 hi2
  have e1 : at_ L1 (i : Int) = L1[i] := by unfold at_; simp [hi1]
  have e2 : at_ L2 (i : Int) = L2[i] := by unfold at_; simp [hi2]
  have := a i
  have := b i
  have := g1 i
  have := g2 i
  rw [e1, e2] at *
  unfold val at *
  split at * <;> split at * <;> omega
end

/-- How much there is to be lessened. -/
def tot : List Int → Nat
  | [] => 0
  | x :: r => (val x).toNat + tot r
theorem tot_set : ∀ (L : List Int) (i : Nat) (x : Int) (h : i < L.length), 0 ≤ x → (L[i] < 0 ∧ x < 20000 ∨ x < L[i]) → tot (L.set i x) < tot L
  | y :: r, 0, x, h, h0, h1 => by
    simp only [List.getElem_cons_zero] at h1
    simp only [List.set_cons_zero, tot]
    unfold val
    split <;> split <;> omega
  | y :: r, i + 1, x, h, h0, h1 => by
    simp only [List.getElem_cons_succ] at h1
    have := tot_set r i x (by simpa using h) h0 h1
    simp only [List.set_cons_succ, tot]
    omega
theorem Less.tot {L : List Int} {p : Pd} {hd : Nat} (h : Less L p) (hl : L.length = hd) (h0 : 0 ≤ p.head) (h1 : p.head < hd) (h2 : p.body.length ≤ 160) : tot (L.set p.head.toNat (sumOf L p.body)) < tot L := by
  have hi : p.head.toNat < L.length := by omega
  have e : at_ L p.head = L[p.head.toNat] := by unfold at_; simp [hi]
  have b := sumOf_bound L p.body h2
  obtain ⟨a1, a2⟩ := h
  rw [e] at a2
  exact tot_set L _ _ hi a1 (by omega)

theorem sumGo_set {L : List Int} {i : Nat} {x : Int} (hi : i < L.length) : ∀ (b : List Sy) (n : Int), (∀ s ∈ b, 0 ≤ s.head → s.head.toNat ≠ i) → sumGo (L.set i x) b n = sumGo L b n
  | [], n, _ => rfl
  | s :: r, n, h => by
    unfold sumGo
    by_cases e : s.head < 0
    · rw [if_pos e, if_pos e]
      exact sumGo_set hi r _ (fun s hs => h s (List.mem_cons_of_mem _ hs))
    · rw [if_neg e, if_neg e]
      have e2 : at_ (L.set i x) s.head = at_ L s.head := by
        rw [at_set hi, if_neg (h s (List.mem_cons_self ..) (by omega))]
      rw [e2]
      by_cases e3 : at_ L s.head < 0
      · rw [if_pos e3, if_pos e3]
      · rw [if_neg e3, if_neg e3]
        exact sumGo_set hi r _ (fun s hs => h s (List.mem_cons_of_mem _ hs))

/-- What is stable stays so where a head is lessened that it does not have. -/
theorem StableAt.stay {L : List Int} {p q : Pd} {hd : Nat} (hl : L.length = hd) (h : StableAt L q) (hp : Less L p) (h0 : 0 ≤ p.head) (h1 : p.head < hd) (hq0 : 0 ≤ q.head) (hn : ∀ s ∈ q.body, s.head ≠ p.head) : StableAt (L.set p.head.toNat (sumOf L p.body)) q := by
  have hi : p.head.toNat < L.length := by omega
  unfold StableAt Less at *
  have e : sumOf (L.set p.head.toNat (sumOf L p.body)) q.body = sumOf L q.body := sumGo_set hi _ _ (fun s hs h2 h3 => hn s hs (by omega))
  rw [e, at_set hi]
  split
  · rename_i e2
    have e3 : at_ L q.head = at_ L p.head := by unfold at_; rw [e2]
    rw [e3] at h
    obtain ⟨a1, a2⟩ := hp
    intro ⟨b1, b2⟩
    apply h
    refine ⟨b1, ?_⟩
    omega
  · exact h
/-- A production that has lessened its head, which it does not have in its body. -/
theorem StableAt.own {L : List Int} {p : Pd} {hd : Nat} (hl : L.length = hd) (hp : Less L p) (h0 : 0 ≤ p.head) (h1 : p.head < hd) (hn : ∀ s ∈ p.body, s.head ≠ p.head) : StableAt (L.set p.head.toNat (sumOf L p.body)) p := by
  have hi : p.head.toNat < L.length := by omega
  unfold StableAt Less at *
  have e : sumOf (L.set p.head.toNat (sumOf L p.body)) p.body = sumOf L p.body := sumGo_set hi _ _ (fun s hs h2 h3 => hn s hs (by omega))
  rw [e, at_set hi, if_pos rfl]
  omega

end Go.Proofs.Ytafldjbmheopjaa
