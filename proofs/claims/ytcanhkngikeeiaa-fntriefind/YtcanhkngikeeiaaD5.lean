/- What l71Voc has in memory while it draws a vocabulary. -/
import Derived.Test.YtcanhkngikeeiaaD4
namespace Go.Proofs.Ytcanhkngikeeiaa
open Go.RowKit
set_option linter.unusedVariables false

/-- While a vocabulary is drawn: the variable v in the block behind w0's, the result's block ahead of it, the pieces in a row of the call's own, the reader. -/
structure VS (w0 : World) (B g N : Nat) (en : Int) (ss : List ByteArray) (A : Option Addr) (cap : Nat) (w : World) : Prop where
  v : Own w (w0.heap.size + 1) 25 [.slice A ss.length cap, .int .i64 en]
  r : Own w w0.heap.size 25 [.slice none 0 0, .int .i64 0]
  p : w.ownsRow (w0.heap.size + 2) 9 1 (.slice A ss.length cap) ss.length (strs ss)
  rd : Rd w B g N
  fr : w0.grownBy w (some g)
  sz : ∀ s ∈ ss, s.size ≤ 10
  hB : B ≤ w0.heap.size

section
variable {w0 w w' : World} {B g N N' : Nat} {en en' : Int} {ss ss' : List ByteArray} {A A' : Option Addr} {cap cap' : Nat}

theorem VS.size (h : VS w0 B g N en ss A cap w) : w0.heap.size + 2 ≤ w.heap.size := by have := h.v.lt; omega
theorem VS.g_lt (h : VS w0 B g N en ss A cap w) : g < w0.heap.size := by have := h.rd.ltB; have := h.hB; omega
theorem VS.c0 (h : VS w0 B g N en ss A cap w) : w.cell? ⟨w0.heap.size + 1, 0, none⟩ = some (.slice A ss.length cap) := by rw [h.v.cell]; rfl
theorem VS.c1 (h : VS w0 B g N en ss A cap w) : w.cell? ⟨w0.heap.size + 1, 1, none⟩ = some (.int .i64 en) := by rw [h.v.cell]; rfl
theorem VS.r0 (h : VS w0 B g N en ss A cap w) : w.cell? ⟨w0.heap.size, 0, none⟩ = some (.slice none 0 0) := by rw [h.r.cell]; rfl
theorem VS.r1 (h : VS w0 B g N en ss A cap w) : w.cell? ⟨w0.heap.size, 1, none⟩ = some (.int .i64 0) := by rw [h.r.cell]; rfl
theorem VS.f (h : VS w0 B g N en ss A cap w) (i : Nat) : w.frozen? ⟨w0.heap.size + 1, i, none⟩ = false := h.v.frozen i
theorem VS.fr' (h : VS w0 B g N en ss A cap w) (i : Nat) : w.frozen? ⟨w0.heap.size, i, none⟩ = false := h.r.frozen i

/-- Only the reader's block has turned, or what is new. -/
theorem VS.touch (h : VS w0 B g N en ss A cap w) (hg : w.grownBy w' (some g)) (hr : Rd w' B g N') : VS w0 B g N' en ss A cap w' :=
  ⟨(hg.block _ h.v.lt (by have := h.g_lt; intro e; injection e; omega)).trans h.v, (hg.block _ h.r.lt (by have := h.g_lt; intro e; injection e; omega)).trans h.r,
    own_old h.p hg (by have := h.g_lt; omega), hr, only_trans h.fr hg, h.sz, h.hB⟩
theorem VS.drew (h : VS w0 B g N en ss A cap w) : VS w0 B g N en ss A cap w.drew := ⟨h.v, h.r, h.p, h.rd.drew, ⟨h.fr.os, h.fr.tape, h.fr.output, h.fr.size, h.fr.block⟩, h.sz, h.hB⟩
theorem VS.alloc (h : VS w0 B g N en ss A cap w) (o : Obj) : VS w0 B g N en ss A cap (w.alloc o) :=
  ⟨h.v.alloc o, h.r.alloc o, h.p.alloc o, h.rd.alloc (by have := h.size; have := h.hB; omega) o, only_alloc h.fr o, h.sz, h.hB⟩
theorem VS.mono (h : VS w0 B g N en ss A cap w) (hN : N ≤ N') : VS w0 B g N' en ss A cap w := ⟨h.v, h.r, h.p, h.rd.mono (Nat.le_refl _) hN, h.fr, h.sz, h.hB⟩

theorem VS.far (h : VS w0 B g N en ss A cap w) {p : Addr} (u : Value) (hp : p.block = w0.heap.size + 1) : w0.grownBy (w.setCell p u) (some g) ∧ Rd (w.setCell p u) B g N :=
  ⟨⟨h.fr.os, h.fr.tape, h.fr.output, by simpa [World.setCell] using h.fr.size, fun i hi hne => (Below.heap_setCell w p u i (by omega)).trans (h.fr.block i hi hne)⟩,
    h.rd.setCell (by have := h.hB; omega) u⟩

theorem own_far {base : Nat} {e : TypeId} {size : Nat} {v : Value} {n : Nat} {xs : List Value} (h : w.ownsRow base e size v n xs) {p : Addr} (hp : p.block < base) (u : Value) : (w.setCell p u).ownsRow base e size v n xs :=
  ownsRow_setCell_below h hp u

/-- The end is written. -/
theorem VS.setEnd (h : VS w0 B g N en ss A cap w) (x : Int) : VS w0 B g N x ss A cap (w.setCell ⟨w0.heap.size + 1, 1, none⟩ (.int .i64 x)) :=
  ⟨by simpa using h.v.set_ 1 (.int .i64 x), h.r.far (by simp) _, own_far h.p (by simp) _, (h.far _ rfl).2, (h.far _ rfl).1, h.sz, h.hB⟩

/-- The pieces are written: a new slice, of which the row is owned. -/
theorem VS.setPieces (h : VS w0 B g N en ss A cap w) (hp : w'.ownsRow (w0.heap.size + 2) 9 1 (.slice A' ss'.length cap') ss'.length (strs ss')) (hg : w.grownBy w' (Value.slice A ss.length cap).ownBlock) (hs : ∀ s ∈ ss', s.size ≤ 10) :
    VS w0 B g N en ss' A' cap' (w'.setCell ⟨w0.heap.size + 1, 0, none⟩ (.slice A' ss'.length cap')) := by
  have hlt : ∀ k, (Value.slice A ss.length cap).ownBlock = some k → w0.heap.size + 2 ≤ k := fun k hk => (h.p.lt k hk).1
  have hv : Own w' (w0.heap.size + 1) 25 [.slice A ss.length cap, .int .i64 en] := (hg.block _ h.v.lt (fun e => by have := hlt _ e.symm; omega)).trans h.v
  have hr : Own w' w0.heap.size 25 [.slice none 0 0, .int .i64 0] := (hg.block _ h.r.lt (fun e => by have := hlt _ e.symm; omega)).trans h.r
  refine ⟨by simpa using hv.set_ 0 (.slice A' ss'.length cap'), hr.far (by simp) _, own_far hp (by simp) _, ?_, ?_, hs, h.hB⟩
  · exact (h.rd.grown (by have := h.size; have := h.hB; omega) hg (fun k hk => by have := hlt k hk; have := h.hB; omega)).setCell (by have := h.hB; simp; omega) _
  · have := only_new h.fr hg (fun k hk => by have := hlt k hk; omega)
    exact ⟨this.os, this.tape, this.output, by simpa [World.setCell] using this.size, fun i hi hne => (Below.heap_setCell w' _ _ i (by simp; omega)).trans (this.block i hi hne)⟩

/-- What a new row of cells holds. -/
theorem new_cells (w : World) (cs : List Value) (t : TypeId) : ∀ j u, cs[j]? = some u → (w.alloc (.cells cs.toArray t)).cell? ((⟨w.heap.size, 0, none⟩ : Addr).add j) = some u := by
  intro j u hu
  have e1 : (Addr.add ⟨w.heap.size, 0, none⟩ j) = ⟨w.heap.size, j, none⟩ := by unfold Addr.add; split <;> simp_all
  rw [e1, (Own.new w t cs.toArray).cell]
  simpa using hu
end

end Go.Proofs.Ytcanhkngikeeiaa
