/- The two functions that are asked of each production; the heads that are needed, while they are found. -/
import Derived.Test.YtafldjbmheopjaaM4
namespace Go.Proofs.Ytafldjbmheopjaa
open Go.RowKit
set_option linter.unusedVariables false

set_option maxRecDepth 100000 in
set_option maxHeartbeats 1000000 in
theorem clos34 (lb n cap : Nat) (A : Option Addr) (L : List Int) (p : Pd) (K : Option Addr) (kc : Nat) (w : World) (hc : w.cell? ⟨lb, 0, none⟩ = some (.slice A n cap)) (hr : Row w A (ints L)) (hL : L.length = n)
    (hk : Syms w K p.body) (hb : BodyIn n p.body) (hg : Good L) (hn : n ≤ 200) :
    Calls Try.prog 72 #[.agg #[.int .i64 p.head, .slice K p.body.length kc], .pointer (some ⟨lb, 0, none⟩)] w (fun e w' => e = .returned (.bool (!termB L p)) ∧ Below w.heap.size w w') := by
  have hlb := cell_lt hc
  simp only at hlb
  have HK := Lib.hid hk
  have HB := Lib.hid hb
  have HG := Lib.hid hg
  have HL := Lib.hid hL
  have HR := Lib.hid hr
  clear hk hb hg hL hr
  go_enter Try.func72, Try.ntmps72
  go_wp2_with fail
  refine (leastSum_n n p.body L K kc A cap _ (HK.out.keep (below_box _)) (HR.out.keep (below_box _)) HL.out HB.out HG.out hn).mono ?_
  rintro e w2 ⟨rfl, hb2⟩
  have hb' : Below w.heap.size w w2 := (below_box _).trans (hb2.mono (by simp))
  have HE : Hid (decide (sumOf L p.body < 0) = !termB L p) := by
    show _ = _
    unfold termB
    by_cases h : sumOf L p.body < 0
    · rw [decide_eq_true h, decide_eq_false (by omega)]; rfl
    · rw [decide_eq_false h, decide_eq_true (by omega)]; rfl
  generalize sumOf L p.body = z at *
  go_wp2
  go_ret
  exact ⟨ret_bool HE.out, hb'⟩

set_option maxRecDepth 100000 in
set_option maxHeartbeats 1000000 in
theorem clos36 (nb n fb : Nat) (N : List Bool) (p : Pd) (K : Option Addr) (kc : Nat) (w : World) (hc : w.cell? ⟨nb, 0, none⟩ = some (.slice (some ⟨fb, 0, none⟩) n n)) (ho : Own w fb 4 (bools N)) (hN : N.length = n) (h0 : 0 ≤ p.head) (h1 : p.head < n) :
    Calls Try.prog 75 #[.agg #[.int .i64 p.head, .slice K p.body.length kc], .pointer (some ⟨nb, 0, none⟩)] w (fun e w' => e = .returned (.bool (!fl N p.head)) ∧ Below w.heap.size w w') := by
  have hlb := cell_lt hc
  simp only at hlb
  have hfb := ho.lt
  have hf := ho.flag h0 (by omega)
  obtain ⟨x, hx⟩ : ∃ x : Nat, p.head = x := ⟨p.head.toNat, by omega⟩
  rw [hx] at hf h1 ⊢
  simp only [Int.toNat_natCast] at hf
  clear ho hx h0
  go_enter Try.func75, Try.ntmps75
  go_wp2
  go_ret
  exact ⟨rfl, below_box _⟩

/-- Heads that are needed, while they are found: which are known, and which of them are still to be looked at. -/
structure NI (n : Nat) (qs : List Pd) (q : List Nat) (N : List Bool) : Prop where
  l : N.length = n
  z : fl N 0 = true
  s : ∀ h, 0 ≤ h → fl N h = true → Need qs h
  qf : ∀ j ∈ q, j < n ∧ fl N (j : Int) = true
  c : ∀ h, 0 ≤ h → fl N h = true → (∃ j ∈ q, (j : Int) = h) ∨ ∀ p ∈ qs, p.head = h → Cov N p
  k : q.length + cntF N ≤ n

section
variable {n x : Nat} {qs : List Pd} {q : List Nat} {N : List Bool}
theorem NI.start (hn : 1 ≤ n) : NI n qs [0] ((List.replicate n false).set 0 true) := by
  have hl : 0 < (List.replicate n false).length := by simp; omega
  have hz : fl ((List.replicate n false).set 0 true) 0 = true := by rw [fl_set hl]; rfl
  have hall : ∀ h : Int, 0 ≤ h → fl ((List.replicate n false).set 0 true) h = true → h = 0 := by
    intro h h0 hh
    rw [fl_set hl] at hh
    split at hh
    · omega
    · exfalso
      unfold fl at hh
      rw [List.getD_eq_getElem?_getD, List.getElem?_replicate] at hh
      split at hh <;> cases hh
  refine ⟨by simp, hz, fun h h0 hh => by rw [hall h h0 hh]; exact Need.zero, fun j hj => ?_, fun h h0 hh => .inl ⟨0, by simp, by rw [hall h h0 hh]; rfl⟩, ?_⟩
  · rw [List.mem_singleton.1 hj]; exact ⟨by omega, hz⟩
  · have := cntF_set (N := List.replicate n false) (i := 0) hl (by simp)
    rw [cntF_replicate] at this
    simp; omega
theorem NI.add (h : NI n qs (x :: q) N) {p : Pd} {s : Sy} (hp : p ∈ qs) (hx : p.head = x) (hs : s ∈ p.body) {y : Nat} (hy : s.head = y) (hyn : y < n) (hf : fl N (y : Int) = false) : NI n qs (x :: (q ++ [y])) (N.set y true) := by
  have hl : y < N.length := by rw [h.l]; exact hyn
  refine ⟨by simpa using h.l, fl_up hl h.z, fun u h0 hu => ?_, fun j hj => ?_, fun u h0 hu => ?_, ?_⟩
  · rw [fl_set hl] at hu
    split at hu
    · have : u = s.head := by omega
      rw [this]
      refine Need.step p s hp ?_ hs (by omega)
      rw [hx]
      exact h.s _ (by omega) (h.qf x (List.mem_cons_self ..)).2
    · exact h.s u h0 hu
  · rw [← List.cons_append] at hj
    rcases List.mem_append.1 hj with h1 | h1
    · exact ⟨(h.qf j h1).1, fl_up hl (h.qf j h1).2⟩
    · rw [List.mem_singleton.1 h1]
      exact ⟨hyn, by rw [fl_set hl, if_pos (by omega)]⟩
  · rw [fl_set hl] at hu
    rw [← List.cons_append]
    split at hu
    · exact .inl ⟨y, List.mem_append_right _ (List.mem_singleton.2 rfl), by omega⟩
    · rcases h.c u h0 hu with ⟨j, hj, e⟩ | h2
      · exact .inl ⟨j, List.mem_append_left _ hj, e⟩
      · exact .inr (fun p hp e => (h2 p hp e).up hl)
  · have := cntF_set hl (by rw [← fl_nat N y hl]; exact hf)
    have := h.k
    simp at this ⊢
    omega
theorem NI.take (h : NI n qs (x :: q) N) (hc : ∀ p ∈ qs, p.head = x → Cov N p) : NI n qs q N := by
  refine ⟨h.l, h.z, h.s, fun j hj => h.qf j (List.mem_cons_of_mem _ hj), fun u h0 hu => ?_, by have := h.k; simp at this; omega⟩
  rcases h.c u h0 hu with ⟨j, hj, e⟩ | h2
  · rcases List.mem_cons.1 hj with rfl | hj
    · exact .inr (fun p hp e2 => hc p hp (by rw [e2, e]))
    · exact .inl ⟨j, hj, e⟩
  · exact .inr h2
theorem NI.done (h : NI n qs [] N) (hq : ∀ p ∈ qs, 0 ≤ p.head) : IsNeed n qs N := by
  refine ⟨h.l, h.z, h.s, fun p hp hf => ?_⟩
  rcases h.c p.head (hq p hp) hf with ⟨j, hj, _⟩ | h2
  · cases hj
  · exact h2 p hp rfl
end

end Go.Proofs.Ytafldjbmheopjaa
