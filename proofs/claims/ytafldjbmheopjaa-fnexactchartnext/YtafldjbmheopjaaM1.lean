/- Needed heads and trimmed productions, plain. -/
import Derived.Test.YtafldjbmheopjaaExactCfgLeastW
namespace Go.Proofs.Ytafldjbmheopjaa
open Go.RowKit
set_option linter.unusedVariables false

/-- What flags say of a head. -/
def fl (N : List Bool) (h : Int) : Bool := N.getD h.toNat false

inductive Need (qs : List Pd) : Int → Prop
  | zero : Need qs 0
  | step (p : Pd) (s : Sy) : p ∈ qs → Need qs p.head → s ∈ p.body → 0 ≤ s.head → Need qs s.head

def Cov (N : List Bool) (p : Pd) : Prop := ∀ s ∈ p.body, 0 ≤ s.head → fl N s.head = true

structure IsNeed (n : Nat) (qs : List Pd) (N : List Bool) : Prop where
  l : N.length = n
  z : fl N 0 = true
  s : ∀ h, 0 ≤ h → fl N h = true → Need qs h
  c : ∀ p ∈ qs, fl N p.head = true → Cov N p

theorem fl_nat (N : List Bool) (i : Nat) (h : i < N.length) : fl N (i : Int) = N[i] := by unfold fl; simp [h]

section
variable {n : Nat} {qs : List Pd} {N N1 N2 : List Bool}
theorem IsNeed.of (h : IsNeed n qs N) {x : Int} (hx : Need qs x) : fl N x = true := by
  induction hx with
  | zero => exact h.z
  | step p s hp _ hs h0 ih => exact h.c p hp ih s hs h0
theorem IsNeed.one (h1 : IsNeed n qs N1) (h2 : IsNeed n qs N2) : N1 = N2 := by
  apply List.ext_getElem (by rw [h1.l, h2.l])
  intro i hi1 hi2
  rw [← fl_nat N1 i hi1, ← fl_nat N2 i hi2]
  cases a : fl N1 i
  · cases b : fl N2 i
    · rfl
    · have := h1.of (h2.s i (by omega) b)
      rw [a] at this; cases this
  · exact (h2.of (h1.s i (by omega) a)).symm
end

theorem fl_set {N : List Bool} {i : Nat} {b : Bool} (h : i < N.length) (k : Int) : fl (N.set i b) k = if k.toNat = i then b else fl N k := by
  unfold fl
  rw [List.getD_eq_getElem?_getD, List.getD_eq_getElem?_getD, List.getElem?_set]
  by_cases e : i = k.toNat
  · subst e; simp [h]
  · rw [if_neg e, if_neg (by omega)]
theorem fl_up {N : List Bool} {i : Nat} (h : i < N.length) {k : Int} (hk : fl N k = true) : fl (N.set i true) k = true := by
  rw [fl_set h]; split
  · rfl
  · exact hk
theorem Cov.up {N : List Bool} {p : Pd} {i : Nat} (h : i < N.length) (hc : Cov N p) : Cov (N.set i true) p := fun s hs h0 => fl_up h (hc s hs h0)

/-- How many flags are not set. -/
def cntF (N : List Bool) : Nat := N.count false
theorem cntF_set : ∀ {N : List Bool} {i : Nat} (h : i < N.length), N[i] = false → cntF (N.set i true) + 1 = cntF N
  | b :: r, 0, h, hb => by
    simp only [List.getElem_cons_zero] at hb
    subst hb
    simp [cntF]
  | b :: r, i + 1, h, hb => by
    have := cntF_set (N := r) (i := i) (by simpa using h) (by simpa using hb)
    unfold cntF at *
    simp only [List.set_cons_succ, List.count_cons]
    omega
theorem cntF_replicate (n : Nat) : cntF (List.replicate n false) = n := by simp [cntF]
theorem cntF_le (N : List Bool) : cntF N ≤ N.length := List.count_le_length

/-- Whether a production ends, by the least lengths. -/
def termB (L : List Int) (p : Pd) : Bool := decide (0 ≤ sumOf L p.body)

/-- What is left of productions that are ok. -/
def IsTrim (hd : Int) (ps : List Pd) (hd' : Int) (qs : List Pd) : Prop :=
  if cfgOkB hd ps = true then hd' = hd ∧ ∃ L N, IsLeast hd ps L ∧ IsNeed hd.toNat (ps.filter (termB L)) N ∧ qs = (ps.filter (termB L)).filter (fun p => fl N p.head) else hd' = 0 ∧ qs = []

theorem IsTrim.one {hd h1 h2 : Int} {ps q1 q2 : List Pd} (a : IsTrim hd ps h1 q1) (b : IsTrim hd ps h2 q2) : h1 = h2 ∧ q1 = q2 := by
  unfold IsTrim at a b
  split at a
  · rename_i h
    rw [if_pos h] at b
    obtain ⟨e1, L1, N1, a1, a2, a3⟩ := a
    obtain ⟨e2, L2, N2, b1, b2, b3⟩ := b
    obtain rfl := a1.one b1
    obtain rfl := a2.one b2
    exact ⟨e1.trans e2.symm, a3.trans b3.symm⟩
  · rename_i h
    rw [if_neg h] at b
    exact ⟨a.1.trans b.1.symm, a.2.trans b.2.symm⟩

theorem IsTrim.len {hd h1 : Int} {ps q1 : List Pd} (a : IsTrim hd ps h1 q1) : q1.length ≤ 400 := by
  unfold IsTrim at a
  split at a
  · rename_i h
    obtain ⟨e1, L1, N1, a1, a2, a3⟩ := a
    have h2 : ps.length ≤ 400 := by unfold cfgOkB at h; simp at h; omega
    rw [a3]
    have := List.length_filter_le (fun p => fl N1 p.head) (ps.filter (termB L1))
    have := List.length_filter_le (termB L1) ps
    omega
  · rw [a.2]; simp
theorem IsTrim.small {hd h1 : Int} {ps q1 : List Pd} (a : IsTrim hd ps h1 q1) (hs : Small ps) : Small q1 := by
  unfold IsTrim at a
  split at a
  · obtain ⟨e1, L1, N1, a1, a2, a3⟩ := a
    rw [a3]
    intro p hp
    exact hs p (List.mem_filter.1 (List.mem_filter.1 hp).1).1
  · rw [a.2]; intro p hp; cases hp

/-- The flags as cells. -/
def bools (N : List Bool) : List Value := N.map .bool
@[simp] theorem bools_length (N : List Bool) : (bools N).length = N.length := by simp [bools]
theorem bools_set (N : List Bool) (i : Nat) (b : Bool) : (bools N).set i (.bool b) = bools (N.set i b) := by simp [bools, List.map_set]
theorem Own.flag {w : World} {g : Nat} {N : List Bool} (h : Own w g 4 (bools N)) {k : Int} (h0 : 0 ≤ k) (h1 : k < N.length) : w.cell? ⟨g, k.toNat, none⟩ = some (.bool (fl N k)) := by
  rw [h.cell]
  unfold bools fl
  rw [List.getElem?_map, List.getD_eq_getElem?_getD, List.getElem?_eq_getElem (by omega)]
  rfl
theorem Own.putFlag {w : World} {g : Nat} {N : List Bool} (h : Own w g 4 (bools N)) (i : Nat) (b : Bool) : Own (w.setCell ⟨g, i, none⟩ (.bool b)) g 4 (bools (N.set i b)) := by
  have := h.set_ i (.bool b)
  rwa [bools_set] at this

/-- A production with the slice that its symbols lie in. -/
structure Pv where
  p : Pd
  K : Option Addr
  kc : Nat
def Pv.sl (x : Pv) : Value := .slice x.K x.p.body.length x.kc
def Pv.val (x : Pv) : Value := .agg #[.int .i64 x.p.head, x.sl]
def pvCells : List Pv → List Value
  | [] => []
  | x :: r => .int .i64 x.p.head :: x.sl :: pvCells r
theorem pvCells_length (xs : List Pv) : (pvCells xs).length = xs.length * 2 := by
  induction xs with
  | nil => rfl
  | cons x r ih => simp [pvCells, ih]; omega
theorem pvCells_append (a b : List Pv) : pvCells (a ++ b) = pvCells a ++ pvCells b := by
  induction a with
  | nil => rfl
  | cons x r ih => simp [pvCells, ih]
theorem pvCells_get (xs : List Pv) : ∀ (i : Nat) (h : i < xs.length), (pvCells xs)[i * 2]? = some (.int .i64 xs[i].p.head) ∧ (pvCells xs)[i * 2 + 1]? = some xs[i].sl := by
  induction xs with
  | nil => intro i h; simp at h
  | cons x r ih =>
    intro i h
    cases i with
    | zero => exact ⟨rfl, rfl⟩
    | succ n =>
      have := ih n (by simpa using h)
      have e : (n + 1) * 2 = n * 2 + 2 := by omega
      rw [e]
      simpa [pvCells] using this
theorem pvCells_set (xs : List Pv) (x : Pv) : ∀ (i : Nat) (h : i < xs.length), ((pvCells xs).set (i * 2) (.int .i64 x.p.head)).set (i * 2 + 1) x.sl = pvCells (xs.set i x) := by
  induction xs with
  | nil => intro i h; simp at h
  | cons y r ih =>
    intro i h
    cases i with
    | zero => simp [pvCells]
    | succ n =>
      have := ih n (by simpa using h)
      have e : (n + 1) * 2 = n * 2 + 2 := by omega
      rw [e]
      simp only [pvCells, List.set_cons_succ]
      rw [this]
theorem pvCells_one (xs : List Pv) : ∀ u ∈ pvCells xs, u.oneCell' = true := by
  induction xs with
  | nil => intro u hu; cases hu
  | cons x r ih =>
    intro u hu
    simp only [pvCells, List.mem_cons] at hu
    rcases hu with rfl | rfl | hu
    · rfl
    · rfl
    · exact ih u hu
theorem symCells_one (ss : List Sy) : ∀ u ∈ symCells ss, u.oneCell' = true := by
  induction ss with
  | nil => intro u hu; cases hu
  | cons x r ih =>
    intro u hu
    simp only [symCells, List.mem_cons] at hu
    rcases hu with rfl | rfl | rfl | hu
    · rfl
    · rfl
    · rfl
    · exact ih u hu

/-- Each production's symbols lie where its slice says. -/
def Bodies (w : World) (xs : List Pv) : Prop := ∀ x ∈ xs, Syms w x.K x.p.body
theorem Bodies.keep {w w' : World} {xs : List Pv} (h : Bodies w xs) (hb : Below w.heap.size w w') : Bodies w' xs := fun x hx => (h x hx).keep hb

theorem pv_of {w : World} {b : Nat} : ∀ (ps : List Pd) (off : Nat), (∀ i (h : i < ps.length), ∃ K kc, PdAt w b (off + i * 2) ps[i] K kc) →
    ∃ xs : List Pv, xs.map Pv.p = ps ∧ Bodies w xs ∧ ∀ i (h : i < (pvCells xs).length), w.cell? ⟨b, off + i, none⟩ = some (pvCells xs)[i]
  | [], off, _ => ⟨[], rfl, (fun x hx => by cases hx), fun i h => by simp [pvCells] at h⟩
  | p :: r, off, h => by
    obtain ⟨xs, h1, h2, h3⟩ := pv_of r (off + 2) (fun i hi => by
      obtain ⟨K, kc, hp⟩ := h (i + 1) (by simpa using hi)
      refine ⟨K, kc, ?_⟩
      rw [show off + 2 + i * 2 = off + (i + 1) * 2 by omega]
      exact hp)
    obtain ⟨K, kc, hp⟩ := h 0 (by simp)
    simp only [Nat.zero_mul, Nat.add_zero, List.getElem_cons_zero] at hp
    refine ⟨⟨p, K, kc⟩ :: xs, by simp [h1], ?_, ?_⟩
    · intro x hx
      rcases List.mem_cons.1 hx with rfl | hx
      · exact hp.k
      · exact h2 x hx
    · intro i hi
      rcases i with _ | _ | i
      · exact hp.c0
      · exact hp.c1
      · have hi' : i < (pvCells xs).length := by simp [pvCells] at hi; omega
        have := h3 i hi'
        rw [show off + 2 + i = off + (i + 2) by omega] at this
        rw [this]; rfl
theorem Pds.pv {w : World} {a : Option Addr} {ps : List Pd} (h : Pds w a ps) : ∃ xs : List Pv, xs.map Pv.p = ps ∧ Bodies w xs ∧ Row w a (pvCells xs) := by
  rcases h with h | ⟨b, off, e, h⟩
  · subst h; exact ⟨[], rfl, (fun x hx => by cases hx), .inl rfl⟩
  · obtain ⟨xs, h1, h2, h3⟩ := pv_of ps off h
    exact ⟨xs, h1, h2, .inr ⟨b, off, e, h3⟩⟩
theorem row_pds {w : World} {a : Option Addr} {xs : List Pv} (h : Row w a (pvCells xs)) (hb : Bodies w xs) : Pds w a (xs.map Pv.p) := by
  rcases h with h | ⟨b, off, e, h⟩
  · have : xs = [] := by
      cases xs with
      | nil => rfl
      | cons x r => cases h
    subst this; exact .inl rfl
  · refine .inr ⟨b, off, e, fun i hi => ?_⟩
    have hi' : i < xs.length := by simpa using hi
    have hl := pvCells_length xs
    obtain ⟨g0, g1⟩ := pvCells_get xs i hi'
    have c0 := h (i * 2) (by omega)
    have c1 := h (i * 2 + 1) (by omega)
    rw [List.getElem?_eq_getElem (by omega)] at g0 g1
    refine ⟨xs[i].K, xs[i].kc, ?_, ?_, ?_⟩
    · rw [c0, g0]; simp
    · rw [show off + i * 2 + 1 = off + (i * 2 + 1) by omega, c1, g1]; simp [Pv.sl]
    · simp only [List.getElem_map]; exact hb _ (List.getElem_mem hi')

theorem Syms.cells {w : World} {b off : Nat} {ss : List Sy} (h : ∀ i (h : i < ss.length), SyAt w b (off + i * 3) ss[i]) : ∀ j u, (symCells ss)[j]? = some u → w.cell? ((⟨b, off, none⟩ : Addr).add j) = some u := by
  intro j u hu
  have e1 : (Addr.add ⟨b, off, none⟩ j) = ⟨b, off + j, none⟩ := by unfold Addr.add; split <;> simp_all
  rw [e1]
  have hl := symCells_length ss
  have hj : j < ss.length * 3 := by
    rcases Nat.lt_or_ge j (symCells ss).length with h | h
    · omega
    · rw [List.getElem?_eq_none h] at hu; cases hu
  have hi : j / 3 < ss.length := by omega
  obtain ⟨g0, g1, g2⟩ := symCells_get ss (j / 3) hi
  obtain ⟨c0, c1, c2⟩ := h (j / 3) hi
  have hm : j % 3 = 0 ∨ j % 3 = 1 ∨ j % 3 = 2 := by omega
  rcases hm with hm | hm | hm
  · have e : j = j / 3 * 3 := by omega
    rw [e] at hu ⊢; rw [c0, ← hu, g0]
  · have e : j = j / 3 * 3 + 1 := by omega
    rw [e] at hu ⊢; rw [← Nat.add_assoc, c1, ← hu, g1]
  · have e : j = j / 3 * 3 + 2 := by omega
    rw [e] at hu ⊢; rw [← Nat.add_assoc, c2, ← hu, g2]

end Go.Proofs.Ytafldjbmheopjaa
