/- Stable sorting, the plain mathematics: two sorted rows are merged by turning the middle. -/
import Derived.Test.YtcanhkngikeeiaaQ1
namespace Go.Proofs.Ytcanhkngikeeiaa
open Go.Sort
set_option linter.unusedVariables false

/-- All places of the one stretch are smaller than all of the other. -/
def Cross (a m b : Nat) (d : Array PP) : Prop := ∀ x y, a ≤ x → x < m → m ≤ y → y < b → d[x]!.2 < d[y]!.2

/-- What a merge makes of a row. -/
def Merged (a b : Nat) (d d' : Array PP) : Prop := PermIn a b d d' ∧ SortedIn ltL a b d'

section
variable {a m b s e mid : Nat} {d d' : Array PP}

/-- The four parts behind a turning. -/
structure Parts (a s m e b : Nat) (d : Array PP) : Prop where
  as : a ≤ s
  sm : s ≤ m
  me : m ≤ e
  eb : e ≤ b
  l : SortedIn ltL a m d
  r : SortedIn ltL m b d
  c : Cross a m b d
  /-- what stays on the left is not above what stays on the right -/
  lr : ∀ x y, a ≤ x → x < s → e ≤ y → y < b → ltL d[y]! d[x]! = false
  /-- what comes to the left is below what goes -/
  rl : ∀ x y, s ≤ x → x < m → m ≤ y → y < e → ltL d[y]! d[x]! = true

theorem rot_at1 (h : Rot s m e d d') {k : Nat} (h1 : s ≤ k) (h2 : k < s + (e - m)) : d'[k]! = d[k + (m - s)]! := by rw [h.2, if_pos ⟨h1, h2⟩]
theorem rot_at2 (h : Rot s m e d d') {k : Nat} (h1 : s + (e - m) ≤ k) (h2 : k < e) : d'[k]! = d[k - (e - m)]! := by rw [h.2, if_neg (by omega), if_pos ⟨h1, h2⟩]
theorem rot_at0 (h : Rot s m e d d') {k : Nat} (h1 : k < s ∨ e ≤ k) (hme : m ≤ e) (hsm : s ≤ m) : d'[k]! = d[k]! := by rw [h.2, if_neg (by omega), if_neg (by omega)]

/-- Both halves behind the turning, and that nothing of the second is below anything of the first. -/
theorem Parts.split (h : Parts a s m e b d) (hr : Rot s m e d d') (hm : mid = s + (e - m)) :
    SortedIn ltL a s d' ∧ SortedIn ltL s mid d' ∧ Cross a s mid d' ∧ SortedIn ltL mid e d' ∧ SortedIn ltL e b d' ∧ Cross mid e b d' ∧ ∀ x y, a ≤ x → x < mid → mid ≤ y → y < b → ltL d'[y]! d'[x]! = false := by
  have p1 := h.as; have p2 := h.sm; have p3 := h.me; have p4 := h.eb
  have g0 : ∀ k, k < s ∨ e ≤ k → d'[k]! = d[k]! := fun k hk => rot_at0 hr hk p3 p2
  have g1 : ∀ k, s ≤ k → k < mid → d'[k]! = d[k + (m - s)]! := fun k k1 k2 => rot_at1 hr k1 (by omega)
  have g2 : ∀ k, mid ≤ k → k < e → d'[k]! = d[k - (e - m)]! := fun k k1 k2 => rot_at2 hr (by omega) k2
  refine ⟨fun i j h1 h2 h3 => ?_, fun i j h1 h2 h3 => ?_, fun i j h1 h2 h3 h4 => ?_, fun i j h1 h2 h3 => ?_, fun i j h1 h2 h3 => ?_, fun i j h1 h2 h3 h4 => ?_, fun x y h1 h2 h3 h4 => ?_⟩
  · rw [g0 i (by omega), g0 j (by omega)]; exact h.l i j h1 h2 (by omega)
  · rw [g1 i h1 (by omega), g1 j (by omega) h3]; exact h.r _ _ (by omega) (by omega) (by omega)
  · rw [g0 i (by omega), g1 j h3 h4]; exact h.c _ _ h1 (by omega) (by omega) (by omega)
  · rw [g2 i h1 (by omega), g2 j (by omega) h3]; exact h.l _ _ (by omega) (by omega) (by omega)
  · rw [g0 i (by omega), g0 j (by omega)]; exact h.r i j (by omega) h2 h3
  · rw [g2 i h1 h2, g0 j (by omega)]; exact h.c _ _ (by omega) (by omega) (by omega) h4
  · by_cases c1 : x < s
    · rw [g0 x (by omega)]
      by_cases c2 : y < e
      · rw [g2 y h3 c2]; exact h.l _ _ h1 (by omega) (by omega)
      · rw [g0 y (by omega)]; exact h.lr x y h1 c1 (by omega) h4
    · rw [g1 x (by omega) h2]
      by_cases c2 : y < e
      · rw [g2 y h3 c2]; exact swo_ltL.asymmA (h.rl _ _ (by omega) (by omega) (by omega) (by omega))
      · rw [g0 y (by omega)]; exact h.r _ _ (by omega) (by omega) h4

theorem join_sorted {d1 d2 : Array PP} (hx : ∀ x y, a ≤ x → x < mid → mid ≤ y → y < b → ltL d[y]! d[x]! = false) (h1 : Merged a mid d d1) (h2 : Merged mid b d1 d2) (ham : a ≤ mid) (hmb : mid ≤ b) (hb : b ≤ d.size) : SortedIn ltL a b d2 := by
  have s1 : d1.size = d.size := h1.1.1
  intro i j hi hij hj
  have e0 : ∀ k, k < mid → d2[k]! = d1[k]! := fun k hk => h2.1.2.1 k (.inl hk)
  by_cases c1 : j < mid
  · rw [e0 i (by omega), e0 j c1]; exact h1.2 i j hi hij c1
  · by_cases c2 : mid ≤ i
    · exact h2.2 i j c2 hij hj
    · rw [e0 i (by omega)]
      refine permIn_all d1 d2 mid b (fun v => ltL v d1[i]! = false) (by omega) h2.1 (fun y y1 y2 => ?_) j (by omega) hj
      rw [h1.1.2.1 y (.inr y1)]
      exact permIn_all d d1 a mid (fun v => ltL d[y]! v = false) (by omega) h1.1 (fun x x1 x2 => hx x y x1 x2 y1 y2) i hi (by omega)

theorem Parts.whole (h : Parts a s m e b d) (hr : Rot s m e d d') (hb : b ≤ d.size) (h1 : SortedIn ltL a (s + (e - m)) d') (h2 : SortedIn ltL (s + (e - m)) b d') : SortedIn ltL a b d' := by
  have p1 := h.as; have p2 := h.sm; have p3 := h.me; have p4 := h.eb
  obtain ⟨_, _, _, _, _, _, hx⟩ := h.split hr rfl
  exact join_sorted (d := d') hx ⟨permIn_refl _ _ _, h1⟩ ⟨permIn_refl _ _ _, h2⟩ (by omega) (by omega) (by rw [hr.1]; exact hb)

/-- One piece on the left is put to its place on the right. -/
theorem left_in {i : Nat} (hr0 : Rot a (a + 1) i d d') (hl : SortedIn ltL (a + 1) b d) (hc : Cross a (a + 1) b d) (hi1 : a + 1 ≤ i) (hi2 : i ≤ b) (hb : b ≤ d.size) (h1 : ∀ h, a + 1 ≤ h → h < i → ltL d[h]! d[a]! = true) (h2 : ∀ h, i ≤ h → h < b → ltL d[h]! d[a]! = false) : SortedIn ltL a b d' := by
  have P : Parts a a (a + 1) i b d := ⟨Nat.le_refl _, by omega, hi1, hi2, fun x y h1 h2 h3 => by omega, hl, hc, fun x y _ _ => by omega, fun x y x1 x2 y1 y2 => by
    obtain rfl : x = a := by omega
    exact h1 y y1 y2⟩
  obtain ⟨_, k1, _, _, k2, _, _⟩ := P.split hr0 rfl
  refine P.whole hr0 hb k1 (fun x y x1 x2 x3 => ?_)
  by_cases c : x < i
  · rw [rot_at2 hr0 x1 c, rot_at0 hr0 (k := y) (by omega) hi1 (by omega)]
    have e : x - (i - (a + 1)) = a := by omega
    rw [e]
    exact h2 y (by omega) x3
  · exact k2 x y (by omega) x2 x3
/-- One piece on the right is put to its place on the left. -/
theorem right_in {i : Nat} (hr0 : Rot i m (m + 1) d d') (hl : SortedIn ltL a m d) (hc : Cross a m (m + 1) d) (hi1 : a ≤ i) (hi2 : i ≤ m) (hb : m + 1 ≤ d.size) (h1 : ∀ h, a ≤ h → h < i → ltL d[m]! d[h]! = false) (h2 : ∀ h, i ≤ h → h < m → ltL d[m]! d[h]! = true) : SortedIn ltL a (m + 1) d' := by
  have P : Parts a i m (m + 1) (m + 1) d := ⟨hi1, hi2, by omega, Nat.le_refl _, hl, fun x y h1 h2 h3 => by omega, hc, fun x y _ _ _ => by omega, fun x y x1 x2 y1 y2 => by
    obtain rfl : y = m := by omega
    exact h2 x x1 x2⟩
  obtain ⟨k1, _, _, k2, _, _, _⟩ := P.split hr0 rfl
  refine P.whole hr0 hb (fun x y x1 x2 x3 => ?_) k2
  by_cases c : y < i
  · exact k1 x y x1 x2 c
  · rw [rot_at0 hr0 (k := x) (by omega) (by omega) hi2, rot_at1 hr0 (k := y) (by omega) x3]
    have e : y + (m - i) = m := by omega
    rw [e]
    exact h1 x x1 (by omega)

theorem lt_mono {x y x' y' : PP} (h : ltL y x = true) (hy : ltL y y' = false) (hx : ltL x' x = false) : ltL y' x' = true := by
  cases h1 : ltL y' x' with
  | true => rfl
  | false =>
    have h2 := swo_ltL.ntrans _ _ _ hy h1
    have h3 := swo_ltL.ntrans _ _ _ h2 hx
    rw [h] at h3
    cases h3
theorem srt_le {lo hi i j : Nat} (h : SortedIn ltL lo hi d) (h1 : lo ≤ i) (h2 : i ≤ j) (h3 : j < hi) : ltL d[j]! d[i]! = false := by
  rcases Nat.lt_or_eq_of_le h2 with h4 | rfl
  · exact h i j h1 h4 h3
  · exact swo_ltL.irrefl _

/-- Where the search in the middle has come to. -/
structure Mid (a m b n s0 r0 s r : Nat) (d : Array PP) : Prop where
  s0s : s0 ≤ s
  sr : s ≤ r
  rr0 : r ≤ r0
  lo : ∀ c, s0 ≤ c → c < s → ltL d[n - 1 - c]! d[c]! = false
  hi : ∀ c, r ≤ c → c < r0 → ltL d[n - 1 - c]! d[c]! = true

/-- The bounds of the search. -/
structure Bnd (a m b n s0 r0 : Nat) : Prop where
  am : a < m
  mb : m < b
  n1 : n = (a + b) / 2 + m
  s : m ≤ (a + b) / 2 ∧ s0 = a ∧ r0 = m ∨ (a + b) / 2 < m ∧ s0 = n - b ∧ r0 = (a + b) / 2

theorem Bnd.at_ {n s0 r0 c : Nat} (h : Bnd a m b n s0 r0) (h1 : s0 ≤ c) (h2 : c < r0) : a ≤ c ∧ c < m ∧ m ≤ n - 1 - c ∧ n - 1 - c < b ∧ c ≤ n - 1 := by
  obtain ⟨q1, q2, q3, q4⟩ := h
  omega

theorem Mid.go {n s0 r0 s r c : Nat} (h : Mid a m b n s0 r0 s r d) (B : Bnd a m b n s0 r0) (hl : SortedIn ltL a m d) (hr : SortedIn ltL m b d) (h1 : s ≤ c) (h2 : c < r) (hf : ltL d[n - 1 - c]! d[c]! = false) : Mid a m b n s0 r0 (c + 1) r d := by
  have k1 := h.s0s; have k2 := h.rr0
  refine ⟨by omega, by omega, h.rr0, fun x x1 x2 => ?_, h.hi⟩
  cases hq : ltL d[n - 1 - x]! d[x]! with
  | false => rfl
  | true =>
    have b1 := B.at_ (c := x) x1 (by omega)
    have b2 := B.at_ (c := c) (by omega) (by omega)
    have := lt_mono (x' := d[c]!) (y' := d[n - 1 - c]!) hq (srt_le hr (by omega) (by omega) (by omega)) (srt_le hl (by omega) (by omega) (by omega))
    rw [hf] at this; cases this
theorem Mid.stay {n s0 r0 s r c : Nat} (h : Mid a m b n s0 r0 s r d) (B : Bnd a m b n s0 r0) (hl : SortedIn ltL a m d) (hr : SortedIn ltL m b d) (h1 : s ≤ c) (h2 : c < r) (hf : ltL d[n - 1 - c]! d[c]! = true) : Mid a m b n s0 r0 s c d := by
  have k1 := h.s0s; have k2 := h.rr0
  refine ⟨h.s0s, h1, by omega, h.lo, fun x x1 x2 => ?_⟩
  have b1 := B.at_ (c := x) (by omega) x2
  have b2 := B.at_ (c := c) (by omega) (by omega)
  exact lt_mono hf (srt_le hr (by omega) (by omega) (by omega)) (srt_le hl (by omega) (by omega) (by omega))

/-- The search is done. -/
theorem Mid.done {n s0 r0 s : Nat} (h : Mid a m b n s0 r0 s s d) (B : Bnd a m b n s0 r0) (hl : SortedIn ltL a m d) (hr : SortedIn ltL m b d) (hc : Cross a m b d) : Parts a s m (n - s) b d ∧ s + (n - s - m) = (a + b) / 2 := by
  have k1 := h.s0s; have k2 := h.rr0
  obtain ⟨q1, q2, q3, q4⟩ := B
  refine ⟨⟨by omega, by omega, by omega, by omega, hl, hr, hc, fun x y x1 x2 y1 y2 => ?_, fun x y x1 x2 y1 y2 => ?_⟩, by omega⟩
  · by_cases c : s = s0
    · omega
    · have hq := h.lo (s - 1) (by omega) (by omega)
      have e1 : n - 1 - (s - 1) = n - s := by omega
      rw [e1] at hq
      exact swo_ltL.ntrans _ _ _ (swo_ltL.ntrans _ _ _ (srt_le hr (by omega) y1 y2) hq) (srt_le hl x1 (by omega) (by omega))
  · by_cases c : s = r0
    · omega
    · exact lt_mono (h.hi s (Nat.le_refl _) (by omega)) (srt_le hr y1 (by omega) (by omega)) (srt_le hl (by omega) x1 x2)
end

end Go.Proofs.Ytcanhkngikeeiaa
