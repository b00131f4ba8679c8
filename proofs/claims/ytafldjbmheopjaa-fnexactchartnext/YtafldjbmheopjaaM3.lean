/- slices.IndexFunc and slices.DeleteFunc of productions. -/
import Derived.Test.YtafldjbmheopjaaM2
namespace Go.Proofs.Ytafldjbmheopjaa
open Go.RowKit
set_option linter.unusedVariables false

theorem own_setN {w : World} {base : Nat} {e : TypeId} {size g n cap : Nat} {xs : List Value} (h : w.ownsRow base e size (.slice (some ⟨g, 0, none⟩) n cap) n xs) (i : Nat) (hi : i < n * size) (u : Value) :
    (w.setCell ⟨g, i, none⟩ u).ownsRow base e size (.slice (some ⟨g, 0, none⟩) n cap) n (xs.set i u) := by
  rcases h with ⟨hl, ⟨h0, _⟩ | ⟨g', cap', cur, h0, h1, h2, h3, h4, h5, h6⟩⟩
  · cases h0
  · injection h0 with a1 a2 a3
    injection a1 with a1
    injection a1 with a1
    subst a1 a3
    have ho : Own w g e cur.toList := by unfold Own; simpa using h2
    have ho2 := ho.set_ i u
    refine ⟨by simpa using hl, .inr ⟨g, cap, (cur.toList.set i u).toArray, rfl, h1, ho2, h3, h4, by simp [h5], ?_⟩⟩
    rw [← h6]
    rw [List.take_set]
theorem own_cellN {w : World} {base : Nat} {e : TypeId} {size g n cap : Nat} {xs : List Value} (h : w.ownsRow base e size (.slice (some ⟨g, 0, none⟩) n cap) n xs) (i : Nat) : ∀ u, xs[i]? = some u → w.cell? ⟨g, i, none⟩ = some u := by
  intro u hu
  have hc := h.cells (g := g) rfl i u hu
  have e1 : (Addr.add ⟨g, 0, none⟩ i) = ⟨g, i, none⟩ := by unfold Addr.add; split <;> simp_all
  rw [e1] at hc; exact hc

/-- Cells that are written from a place on. -/
def putAll : List Value → Nat → List Value → List Value
  | xs, _, [] => xs
  | xs, o, v :: r => putAll (xs.set o v) (o + 1) r
theorem putAll_length : ∀ (vs xs : List Value) (o : Nat), (putAll xs o vs).length = xs.length
  | [], xs, o => rfl
  | v :: r, xs, o => by rw [putAll, putAll_length r]; simp
theorem putAll_take : ∀ (vs xs : List Value) (o k : Nat), k ≤ o → (putAll xs o vs).take k = xs.take k
  | [], xs, o, k, h => rfl
  | v :: r, xs, o, k, h => by
    rw [putAll, putAll_take r _ _ _ (by omega), List.take_set_of_le h]
theorem Own.putAll {g : Nat} {t : TypeId} : ∀ (vs xs : List Value) (o : Nat) (w : World), Own w g t xs → Own (w.setCells g o vs) g t (putAll xs o vs)
  | [], xs, o, w, h => h
  | v :: r, xs, o, w, h => Own.putAll r _ _ _ (h.set_ o v)
theorem fr_setCells {g : Nat} : ∀ (vs : List Value) (o : Nat) (w : World), Fr (fun k => k = g) (fun k => k = g) w (w.setCells g o vs)
  | [], o, w => Fr.refl _ _
  | v :: r, o, w => ((Fr.refl (fun k => k = g) w).setCell (p := ⟨g, o, none⟩) rfl v).trans (fr_setCells r (o + 1) _)

theorem zero43 (w : World) : (zeroValue 57).run Try.prog w = .ok (.agg #[.int .i64 0, .slice none 0 0]) w := by
  obtain ⟨i0, hi0, hz0, hz1, hz2⟩ := info_parts info43
  have hi : Try.prog.info? 57 = some Try.t57 := by kernel_rfl
  have e : Try.t57 = i0 := by rw [hi] at hi0; injection hi0
  unfold zeroValue
  simp [e, hz0]

theorem zeroCells_one (m : Nat) : ∀ v ∈ (Builtin.zeroCells #[(.int .i64 0 : Value), .slice none 0 0] m).toList, v.oneCell' = true := by
  intro v hv
  simp [Builtin.zeroCells] at hv
  obtain ⟨i, hi, rfl⟩ := hv
  have : i % 2 = 0 ∨ i % 2 = 1 := by omega
  rcases this with h | h <;> rw [h] <;> rfl

theorem run_clear2 {w : World} {base g n cap i c : Nat} {xs : List Value} (h : w.ownsRow base 57 2 (.slice (some ⟨g, 0, none⟩) n cap) n xs) (hi : i < n) :
    ∃ w', (∀ ty, (Builtin.clear_ #[31] ty #[.slice (some ⟨g, i * 2, none⟩) (n - i) c]).run Try.prog w = .ok (.tuple #[]) w') ∧ w'.ownsRow base 57 2 (.slice (some ⟨g, 0, none⟩) i cap) i (xs.take (i * 2)) ∧ Fr (fun k => k = g) (fun k => k = g) w w' := by
  rcases h with ⟨hl, ⟨h0, _⟩ | ⟨g', cap', cur, h0, h1, h2, h3, h4, h5, h6⟩⟩
  · cases h0
  · injection h0 with a1 a2 a3
    injection a1 with a1
    injection a1 with a1
    subst a1 a3
    have ho : Own w g 57 cur.toList := by unfold Own; simpa using h2
    have hzl : (Builtin.zeroCells #[(.int .i64 0 : Value), .slice none 0 0] (n - i)).toList.length = (n - i) * 2 := by simp [Builtin.zeroCells]
    have hcl : cur.toList.length = cap * 2 := by simpa using h5
    have hst := run_storeCells_cells (P := Try.prog) g (i * 2) (Builtin.zeroCells #[(.int .i64 0 : Value), .slice none 0 0] (n - i)).toList 0 w
      (fun j hj => by rw [hzl] at hj; rw [ho.cell_ (by omega)]; rfl) (fun j hj => ho.frozen _) (zeroCells_one _)
    simp only [Nat.add_zero] at hst
    refine ⟨_, fun ty => ?_, ?_, fr_setCells (Builtin.zeroCells #[(.int .i64 0 : Value), .slice none 0 0] (n - i)).toList (i * 2) w⟩
    · obtain ⟨m, hm⟩ : ∃ m, n - i = m + 1 := ⟨n - i - 1, by omega⟩
      rw [hm] at hst ⊢
      have hc : (Value.agg #[.int .i64 0, .slice none 0 0]).cells = #[.int .i64 0, .slice none 0 0] := rfl
      simp [Builtin.clear_, run_underlying Try.underlying31, hc, hst]
    · have ho2 := ho.putAll (Builtin.zeroCells #[(.int .i64 0 : Value), .slice none 0 0] (n - i)).toList cur.toList (i * 2) w
      refine ⟨by rw [List.length_take, hl]; omega, .inr ⟨g, cap, _, rfl, h1, ho2, by omega, h4, by simp [putAll_length, hcl], ?_⟩⟩
      rw [putAll_take _ _ _ _ (Nat.le_refl _), ← h6, List.take_take, Nat.min_eq_left (by omega)]

/-- What a function that is asked of each production must do, while some blocks may turn. -/
def Asked (F : Nat) (cp : Value) (del : Pd → Bool) (xs : List Pv) (G : Nat → Prop) (w : World) : Prop :=
  ∀ x ∈ xs, ∀ W, Fr G G w W → Calls Try.prog F #[.agg #[.int .i64 x.p.head, .slice x.K x.p.body.length x.kc], cp] W (fun e W' => e = .returned (.bool (del x.p)) ∧ Below W.heap.size W W')

/-- The place of the first production that is to go, or -1. -/
def FirstDel (del : Pd → Bool) (xs : List Pv) (r : Int) : Prop := (r = -1 ∧ ∀ x ∈ xs, del x.p = false) ∨ ∃ k : Nat, r = k ∧ ∃ h : k < xs.length, del xs[k].p = true ∧ ∀ j (h : j < xs.length), j < k → del xs[j].p = false

end Go.Proofs.Ytafldjbmheopjaa
