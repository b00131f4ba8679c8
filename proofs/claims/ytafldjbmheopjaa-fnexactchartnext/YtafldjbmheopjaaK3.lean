/- The least lengths of heads: spec.CfgLeast. -/
import Derived.Test.YtafldjbmheopjaaK2
import Derived.Test.YtafldjbmheopjaaC6
import Derived.Maps.AppendAt
namespace Go.Proofs.Ytafldjbmheopjaa
open Go.RowKit
set_option linter.unusedVariables false

theorem ok_fit {n : Nat} {ps : List Pd} (h : cfgOkB (n : Int) ps = true) : Fit n ps ∧ ps.length ≤ 400 ∧ 1 ≤ n ∧ n ≤ 200 := by
  unfold cfgOkB at h
  simp only [Bool.and_eq_true, decide_eq_true_eq] at h
  obtain ⟨⟨⟨h1, h2⟩, h3⟩, h4⟩ := h
  refine ⟨fun p hp => ?_, h3, by omega, by omega⟩
  obtain ⟨j, hj, rfl⟩ := List.getElem_of_mem hp
  have h5 := allOk_iff.1 h4 j hj hj
  unfold pdOkB bodyOkB at h5
  simp only [Bool.and_eq_true, decide_eq_true_eq, List.all_eq_true] at h5
  obtain ⟨⟨⟨a1, a2⟩, a3⟩, a4, a5⟩ := h5
  refine ⟨a1, a3, a4, fun s hs => ?_⟩
  have := a5 s hs
  unfold symOkB at this
  split at this
  · exact .inl (by assumption)
  · simp only [Bool.and_eq_true, decide_eq_true_eq] at this
    exact .inr ⟨this.1.1.1, this.1.1.2⟩

section
variable {w w' : World} {base : Nat} {e : TypeId} {size : Nat} {v : Value} {n : Nat} {xs : List Value}
theorem own_form (h : w.ownsRow base e size v n xs) : ∃ A cap, v = .slice A n cap := by
  rcases h.2 with ⟨rfl, rfl⟩ | ⟨g, cap, cur, rfl, _⟩
  · exact ⟨_, _, rfl⟩
  · exact ⟨_, _, rfl⟩
theorem own_row {A : Option Addr} {c : Nat} (h : w.ownsRow base e 1 (.slice A n c) n xs) : Row w A xs := by
  rcases h.2 with ⟨hv, rfl⟩ | ⟨g, cap, cur, hv, _⟩
  · have := h.1; simp at this; exact .inl this
  · have hA : A = some ⟨g, 0, none⟩ := by injection hv
    subst hA
    refine .inr ⟨g, 0, rfl, fun i hi => ?_⟩
    have hc := h.cells (g := g) rfl i xs[i] (List.getElem?_eq_getElem hi)
    have e1 : (Addr.add ⟨g, 0, none⟩ i) = ⟨g, 0 + i, none⟩ := by unfold Addr.add; split <;> simp_all
    rw [e1] at hc; exact hc
theorem own_keep (h : w.ownsRow base e size v n xs) (hb : Below w.heap.size w w') : w'.ownsRow base e size v n xs := by
  rcases h with ⟨hl, ⟨rfl, rfl⟩ | ⟨g, cap, cur, rfl, h1, h2, h3⟩⟩
  · exact ⟨hl, .inl ⟨rfl, rfl⟩⟩
  · exact ⟨hl, .inr ⟨g, cap, cur, rfl, h1, (hb.block g (Array.getElem?_eq_some_iff.1 h2).1).trans h2, h3⟩⟩
theorem own_base {base' : Nat} (h : w.ownsRow base e size v n xs) (hb : base' ≤ base) : w.ownsRow base' e size v n xs := by
  rcases h with ⟨hl, ⟨rfl, rfl⟩ | ⟨g, cap, cur, rfl, h1, h2, h3⟩⟩
  · exact ⟨hl, .inl ⟨rfl, rfl⟩⟩
  · exact ⟨hl, .inr ⟨g, cap, cur, rfl, by omega, h2, h3⟩⟩
theorem own_some (h : w.ownsRow base e size v n xs) (hn : 0 < n) : ∃ g cap, v = .slice (some ⟨g, 0, none⟩) n cap ∧ base ≤ g ∧ g < w.heap.size := by
  rcases h with ⟨hl, ⟨rfl, rfl⟩ | ⟨g, cap, cur, rfl, h1, h2, h3⟩⟩
  · omega
  · exact ⟨g, cap, rfl, h1, (Array.getElem?_eq_some_iff.1 h2).1⟩
theorem own_set {g cap : Nat} (h : w.ownsRow base e 1 (.slice (some ⟨g, 0, none⟩) n cap) n xs) (i : Nat) (hi : i < n) (u : Value) :
    (w.setCell ⟨g, i, none⟩ u).ownsRow base e 1 (.slice (some ⟨g, 0, none⟩) n cap) n (xs.set i u) := by
  rcases h with ⟨hl, ⟨h0, _⟩ | ⟨g', cap', cur, h0, h1, h2, h3, h4, h5, h6⟩⟩
  · cases h0
  · injection h0 with a1 a2 a3
    injection a1 with a1
    injection a1 with a1
    subst a1 a3
    have ho : Own w g e cur.toList := by unfold Own; simpa using h2
    have ho2 := ho.set_ i u
    refine ⟨by simpa using hl, .inr ⟨g, cap, (cur.toList.set i u).toArray, rfl, h1, ho2, h3, h4, by simp [h5], ?_⟩⟩
    rw [← h6]
    simp only [Nat.mul_one]
    rw [List.take_set]
theorem own_frozen {A : Addr} {cap : Nat} (h : w.ownsRow base e size (.slice (some A) n cap) n xs) (i : Nat) : w.frozen? ⟨A.block, i, none⟩ = false := by
  rcases h with ⟨hl, ⟨h0, _⟩ | ⟨g', cap', cur, h0, h1, h2, _⟩⟩
  · cases h0
  · injection h0 with a1
    injection a1 with a1
    subst a1
    simp [World.frozen?, h2]
theorem own_new (w : World) (e : TypeId) (base : Nat) (hb : base ≤ w.heap.size) (xs : List Value) (hx : xs.length ≤ maxLen) : (w.alloc (.cells xs.toArray e)).ownsRow base e 1 (.slice (some ⟨w.heap.size, 0, none⟩) xs.length xs.length) xs.length xs := by
  refine ⟨by simp, .inr ⟨w.heap.size, xs.length, xs.toArray, rfl, hb, ?_, Nat.le_refl _, hx, by simp, by simp⟩⟩
  exact Own.new w e xs.toArray
end

theorem ints_one (out : List Int) (x : Int) : ints out ++ [.int .i64 x] = ints (out ++ [x]) := by simp [ints]
theorem ints_set (L : List Int) (i : Nat) (x : Int) : (ints L).set i (.int .i64 x) = ints (L.set i x) := by simp [ints, List.map_set]
theorem info3 : (Try.prog.info? 3).map (fun i => (i.zero, i.size, i.bytes)) = some (some (.int .i64 0), 1, 8) := by kernel_rfl

/-- A list of ints that is one's own, and what was there before. -/
structure LS (W : World) (g cap : Nat) (L : List Int) (w : World) : Prop where
  o : w.ownsRow W.heap.size 3 1 (.slice (some ⟨g, 0, none⟩) L.length cap) L.length (ints L)
  b : Below W.heap.size W w

theorem LS.keep {W w w' : World} {g cap : Nat} {L : List Int} (h : LS W g cap L w) (hb : Below w.heap.size w w') : LS W g cap L w' := ⟨own_keep h.o hb, h.b.trans (hb.mono h.b.size)⟩
theorem LS.row {W w : World} {g cap : Nat} {L : List Int} (h : LS W g cap L w) : Row w (some ⟨g, 0, none⟩) (ints L) := own_row h.o
theorem LS.ge {W w : World} {g cap : Nat} {L : List Int} (h : LS W g cap L w) : W.heap.size ≤ g ∧ g < w.heap.size := h.o.lt g rfl
theorem LS.put {W w : World} {g cap : Nat} {L : List Int} (h : LS W g cap L w) (i : Nat) (hi : i < L.length) (x : Int) : LS W g cap (L.set i x) (w.setCell ⟨g, i, none⟩ (.int .i64 x)) := by
  refine ⟨?_, h.b.setCell h.ge.1 _⟩
  have := own_set h.o i hi (.int .i64 x)
  rw [ints_set] at this
  simpa using this
theorem LS.at_ {W w : World} {g cap : Nat} {L : List Int} (h : LS W g cap L w) {k : Int} (h0 : 0 ≤ k) (h1 : k < L.length) : w.cell? ⟨g, k.toNat, none⟩ = some (.int .i64 (at_ L k)) := by
  obtain ⟨b, off, e, hc⟩ := at_row h.row h0 h1
  injection e with e
  injection e with e1 e2
  subst e1 e2
  simpa using hc

/-- What the cells of a block read as. -/
def readL (g n : Nat) (w : World) : List Int := (List.range n).map fun i => match w.cell? ⟨g, i, none⟩ with | some v => intOf v | none => 0
theorem LS.read {W w : World} {g cap : Nat} {L : List Int} (h : LS W g cap L w) : readL g L.length w = L := by
  unfold readL
  apply List.ext_getElem (by simp)
  intro i h1 h2
  simp only [List.getElem_map, List.getElem_range]
  have := h.at_ (k := (i : Int)) (by omega) (by omega)
  simp only [Int.toNat_natCast] at this
  rw [this]
  simp [intOf, Go.Proofs.Ytafldjbmheopjaa.at_, h2]
def bN : Value → Nat
  | .bool true => 1
  | _ => 0

/-- The least lengths of heads. -/
def IsLeast (hd : Int) (ps : List Pd) (L : List Int) : Prop := if cfgOkB hd ps = true then Reach hd.toNat ps L ∧ ∀ p ∈ ps, StableAt L p else L = []
theorem IsLeast.one {hd : Int} {ps : List Pd} {L1 L2 : List Int} (h1 : IsLeast hd ps L1) (h2 : IsLeast hd ps L2) : L1 = L2 := by
  unfold IsLeast at h1 h2
  split at h1
  · rename_i h
    rw [if_pos h] at h2
    have h0 : 0 ≤ hd := by unfold cfgOkB at h; simp at h; omega
    obtain ⟨n, rfl⟩ : ∃ n : Nat, hd = n := ⟨hd.toNat, by omega⟩
    exact Reach.one (ok_fit h).1 h1.1 h1.2 h2.1 h2.2
  · rename_i h
    rw [if_neg h] at h2
    rw [h1, h2]

def LeastPost (hd : Int) (ps : List Pd) (w : World) (e : Ending) (w' : World) : Prop :=
  ∃ L A cap, e = .returned (.slice A L.length cap) ∧ w'.ownsRow w.heap.size 3 1 (.slice A L.length cap) L.length (ints L) ∧ IsLeast hd ps L ∧ Below w.heap.size w w'

end Go.Proofs.Ytafldjbmheopjaa
