/- The program's tree: the closure that tells bytes apart, and the search with it. -/
import Derived.Test.YtcanhkngikeeiaaV5
namespace Go.Proofs.Ytcanhkngikeeiaa
open Go.RowKit
set_option linter.unusedVariables false

section
variable {w : World} {a : Option Addr} {ps : List PP}
theorem PRow.at_ (h : PRow w a ps) {i : Nat} (hi : i < ps.length) : ∃ b off, a = some ⟨b, off, none⟩ ∧ w.cell? ⟨b, off + i * 2, none⟩ = some (.string ps[i].1) ∧ w.cell? ⟨b, off + i * 2 + 1, none⟩ = some (.int .i64 ps[i].2) := by
  rcases h with h | ⟨b, off, e, h⟩
  · rw [h] at hi; simp at hi
  · exact ⟨b, off, e, h i hi⟩
theorem PRow.take (h : PRow w a ps) (n : Nat) : PRow w a (ps.take n) := by
  rcases h with h | ⟨b, off, e, h⟩
  · left; rw [h]; simp
  · refine .inr ⟨b, off, e, fun i hi => ?_⟩
    have hi' : i < ps.length := by simp at hi; omega
    simpa using h i hi'
theorem PRow.drop {b off : Nat} (h : PRow w (some ⟨b, off, none⟩) ps) (n : Nat) : PRow w (some ⟨b, off + n * 2, none⟩) (ps.drop n) := by
  rcases h with h | ⟨b', off', e, h⟩
  · left; rw [h]; simp
  · injection e with e
    injection e with e1 e2
    subst e1 e2
    refine .inr ⟨b, off + n * 2, rfl, fun i hi => ?_⟩
    have hi' : n + i < ps.length := by simp at hi; omega
    have := h (n + i) hi'
    rw [show off + (n + i) * 2 = off + n * 2 + i * 2 by omega] at this
    simpa using this
theorem PRow.fr {w' : World} {F F' : Nat → Prop} (h : PRow w a ps) (hf : Fr F F' w w') (ha : ∀ p, a = some p → ¬ F p.block) : PRow w' a ps := by
  rcases h with h | ⟨b, off, rfl, h⟩
  · exact .inl h
  · exact .inr ⟨b, off, rfl, fun i hi => ⟨hf.cell (h i hi).1 (ha ⟨b, off, none⟩ rfl), hf.cell (h i hi).2 (ha ⟨b, off, none⟩ rfl)⟩⟩
end

/-- Whether a piece has another byte at a depth. -/
def otherB (dep : Nat) (c : UInt8) (x : PP) : Bool := decide (x.1.data.getD dep 0 ≠ c)

set_option maxRecDepth 100000 in
set_option maxHeartbeats 1000000 in
theorem clos82 (D N dep : Nat) (c : UInt8) (x : PP) (w : World) (hD : w.cell? ⟨D, 0, none⟩ = some (.int .i64 dep)) (hN : w.cell? ⟨N, 0, none⟩ = some (.int .u8 c.toNat)) (hd : dep < x.1.size) (hx : x.1.size ≤ 1048576) :
    Calls Try.prog 82 #[.agg #[.string x.1, .int .i64 x.2], .pointer (some ⟨D, 0, none⟩), .pointer (some ⟨N, 0, none⟩)] w fun e w' => e = .returned (.bool (otherB dep c x)) ∧ Below w.heap.size w w' := by
  have hbx : Below w.heap.size w (w.alloc (.cells #[.string x.1, .int .i64 x.2] 105)) := below_box _
  have h1 := cell_keep hbx hD
  have h2 := cell_keep hbx hN
  have h3 : (w.alloc (.cells #[.string x.1, .int .i64 x.2] 105)).cell? ⟨w.heap.size, 0, none⟩ = some (.string x.1) := by rw [(Own.new w 105 #[.string x.1, .int .i64 x.2]).cell]; rfl
  have hdz : (dep : Int) < (x.1.size : Int) := by omega
  have hDl := cell_lt hD
  have hNl := cell_lt hN
  simp only at hDl hNl
  have e : Hid (otherB dep c x = (((x.1[dep]).toNat : Int) != (c.toNat : Int))) := by
    show _ = _
    unfold otherB
    have : x.1.data.getD dep 0 = x.1[dep] := by simp [Array.getD, hd, ByteArray.getElem_eq_getElem_data]
    rw [this]
    by_cases q : x.1[dep] = c
    · rw [q]; simp
    · have : x.1[dep].toNat ≠ c.toNat := fun h => q (UInt8.toNat.inj h)
      simp [q]; omega
  have hbb := Lib.hid hbx
  clear hD hN hbx
  go_enter Try.func82, Try.ntmps82
  go_wp2
  generalize w.alloc (.cells #[.string x.1, .int .i64 x.2] 105) = w1 at h1 h2 h3 hbb ⊢
  go_quiet (fail)
  go_wp2
  go_ret
  exact ⟨by rw [e.out]; rfl, below_drewN hbb.out _⟩

/-- What the search leaves. -/
def IdxPost (dep : Nat) (c : UInt8) (ps : List PP) (w : World) (e : Ending) (w' : World) : Prop :=
  ∃ r : Int, e = .returned (.int .i64 r) ∧ ((r = -1 ∧ ∀ x ∈ ps, otherB dep c x = false) ∨ ∃ j : Nat, r = j ∧ j < ps.length ∧ (ps.takeWhile (fun x => !otherB dep c x)).length = j) ∧ Below w.heap.size w w'

theorem takeWhile_stop {α : Type} (p : α → Bool) : ∀ (l : List α) (j : Nat) (h : j < l.length), (∀ i (hi : i < l.length), i < j → p l[i] = true) → p l[j] = false → (l.takeWhile p).length = j
  | x :: l, 0, _, _, h2 => by rw [List.takeWhile_cons]; simp at h2; simp [h2]
  | x :: l, j + 1, h, h1, h2 => by
    have h0 := h1 0 (by simp) (by omega)
    simp only [List.getElem_cons_zero] at h0
    rw [List.takeWhile_cons, h0]
    have := takeWhile_stop p l j (by simpa using h) (fun i hi hj => by have := h1 (i + 1) (by simpa using hi) (by omega); simpa using this) (by simpa using h2)
    simp [this]

set_option maxRecDepth 100000 in
set_option maxHeartbeats 2000000 in
theorem idx81 (D N dep : Nat) (c : UInt8) (PA : Option Addr) (pc : Nat) (ps : List PP) (w : World) (hD : w.cell? ⟨D, 0, none⟩ = some (.int .i64 dep)) (hN : w.cell? ⟨N, 0, none⟩ = some (.int .u8 c.toNat)) (hr : PRow w PA ps) (hl : ps.length ≤ 1048576) (hs : ∀ x ∈ ps, dep < x.1.size ∧ x.1.size ≤ 1048576) :
    Calls Try.prog 81 #[.slice PA ps.length pc, .func (.func 82) #[] #[.pointer (some ⟨D, 0, none⟩), .pointer (some ⟨N, 0, none⟩)]] w (IdxPost dep c ps w) := by
  have HD := Lib.hid (And.intro hD hN)
  have HR := Lib.hid hr
  have HS := Lib.hid hs
  clear hD hN hr hs
  go_enter Try.func81, Try.ntmps81
  go_wp2
  go_loopw [5, 6, 9] (fun x y i wr => ∃ k : Nat, k ≤ ps.length ∧ i = .int .i64 k ∧ Hid (∀ j (h : j < ps.length), j < k → otherB dep c ps[j] = false) ∧ Below w.heap.size w wr) (fun _ _ i _ => ps.length - (intOf i).toNat)
  case atStart => exact ⟨0, Nat.zero_le _, rfl, fun j _ hj => by omega, Below.refl _ _⟩
  case round =>
    obtain ⟨k, hk, rfl, HK, hb⟩ := hrel
    by_cases hlt : k < ps.length
    · have hlt' : (k : Int) < (ps.length : Int) := by omega
      obtain ⟨b, off, rfl, c0, c1⟩ := (HR.out.keep hb).at_ hlt
      obtain ⟨hs1, hs2⟩ := HS.out _ (List.getElem_mem hlt)
      have hcl := clos82 D N dep c ps[k] (wr.alloc (.cells #[.string ps[k].1, .int .i64 ps[k].2] 105)) (cell_alloc (cell_keep hb HD.out.1) _) (cell_alloc (cell_keep hb HD.out.2) _) hs1 hs2
      generalize hxk : ps[k] = xk at *
      have HXK := Lib.hid hxk
      clear hxk
      cases hB : otherB dep c xk
      · rw [hB] at hcl
        have HCL := Lib.hid hcl
        have HB := Lib.hid hB
        clear hcl hB
        go_wp2_with fail
        refine HCL.out.mono ?_
        rintro e w2 ⟨rfl, hb2⟩
        have hb' : Below w.heap.size w w2 := (hb.alloc hb.size _).trans (hb2.mono (by have := hb.size; simp; omega))
        clear hb hb2 c0 c1 HCL
        go_wp2
        go_roundw
        case rel => exact ⟨k + 1, by omega, by go_num, fun j h hj => by
            rcases Nat.lt_succ_iff_lt_or_eq.1 hj with h3 | h3
            · exact HK j h h3
            · subst h3; rw [HXK.out]; exact HB.out, hb'⟩
        case measure => simp [intOf]; omega
      · rw [hB] at hcl
        have HCL := Lib.hid hcl
        have HB := Lib.hid hB
        clear hcl hB
        go_wp2_with fail
        refine HCL.out.mono ?_
        rintro e w2 ⟨rfl, hb2⟩
        have hb' : Below w.heap.size w w2 := (hb.alloc hb.size _).trans (hb2.mono (by have := hb.size; simp; omega))
        clear hb hb2 c0 c1 HCL
        go_wp2
        go_ret
        refine ⟨k, rfl, .inr ⟨k, rfl, hlt, takeWhile_stop _ ps k hlt (fun i hi hj => by rw [HK i hi hj]; rfl) (by rw [HXK.out, HB.out]; rfl)⟩, hb'⟩
    · have hlt' : ¬ (k : Int) < (ps.length : Int) := by omega
      go_wp2
      go_ret
      refine ⟨-1, rfl, .inl ⟨rfl, fun x hx => ?_⟩, hb⟩
      obtain ⟨j, hj, rfl⟩ := List.getElem_of_mem hx
      exact HK j hj (by omega)

end Go.Proofs.Ytcanhkngikeeiaa
