/- Rules in memory, and how large they are. -/
import Derived.Test.YtkgiklmdpdakbaaP1
namespace Go.Proofs.Ytkgiklmdpdakbaa
open Go.RowKit
set_option linter.unusedVariables false

structure Ru where
  name : ByteArray
  p : Pt

/-- One rule in eight cells from a place on. -/
structure RuAt (w : World) (B0 b off : Nat) (r : Ru) : Prop where
  n : w.cell? ⟨b, off, none⟩ = some (.string r.name)
  p : PtAt w B0 b (off + 1) r.p
/-- Rules, one behind the other. -/
def Rus (w : World) (B0 : Nat) (a : Option Addr) (rs : List Ru) : Prop := rs = [] ∨ ∃ b off, a = some ⟨b, off, none⟩ ∧ B0 ≤ b ∧ ∀ i (h : i < rs.length), RuAt w B0 b (off + i * 8) rs[i]

theorem Rus.keep {w w' : World} {B0 : Nat} {a : Option Addr} {rs : List Ru} (h : Rus w B0 a rs) (hb : Below w.heap.size w w') : Rus w' B0 a rs := by
  rcases h with h | ⟨b, off, e, hb0, h⟩
  · exact .inl h
  · exact .inr ⟨b, off, e, hb0, fun i hi => ⟨cell_keep hb (h i hi).n, (h i hi).p.keep hb⟩⟩
theorem Rus.at_ {w : World} {B0 : Nat} {a : Option Addr} {rs : List Ru} (h : Rus w B0 a rs) {i : Nat} (hi : i < rs.length) : ∃ b off, a = some ⟨b, off, none⟩ ∧ RuAt w B0 b (off + i * 8) rs[i] := by
  rcases h with h | ⟨b, off, e, hb0, h⟩
  · subst h; simp at hi
  · exact ⟨b, off, e, h i hi⟩

/-- What is asked of rules that came in, and of those that are small. -/
def LimR (M : Nat) (rs : List Ru) : Prop := ∀ r ∈ rs, r.name.size ≤ M ∧ Lim M r.p

end Go.Proofs.Ytkgiklmdpdakbaa
