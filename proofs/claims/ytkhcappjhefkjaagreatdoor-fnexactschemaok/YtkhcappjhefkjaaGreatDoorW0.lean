/- Bytes of a grammar's text, plain. -/
import Derived.Test.YtkhcappjhefkjaaGreatDoorBase
import Derived.IntWalk
namespace Go.Proofs.YtkhcappjhefkjaaGreatDoor
open Go.RowKit
set_option linter.unusedVariables false

/-- The bytes of a string. -/
def bl (s : ByteArray) : List UInt8 := s.data.toList
theorem bl_size (s : ByteArray) : s.size = (bl s).length := (Array.length_toList (xs := s.data)).symm
theorem bl_append (a b : ByteArray) : bl (a ++ b) = bl a ++ bl b := by unfold bl; simp
theorem bl_inj {a b : ByteArray} (h : bl a = bl b) : a = b := by
  unfold bl at h
  have := Array.toList_inj.1 h
  cases a; cases b; simp_all
theorem bl_get (s : ByteArray) (i : Nat) (h : i < s.size) : (bl s)[i]'(by rw [← bl_size]; exact h) = s[i] := by unfold bl; rfl

def hexd (n : Nat) : UInt8 := if n < 10 then UInt8.ofNat (48 + n) else UInt8.ofNat (87 + n)
def plainB (own : List UInt8) (b : UInt8) : Bool := decide (32 ≤ b.toNat) && decide (b.toNat ≤ 126) && b != 92 && !own.contains b
/-- A byte as it is written. -/
def escB (own : List UInt8) (b : UInt8) : List UInt8 := if plainB own b = true then [b] else [92, hexd (b.toNat / 16), hexd (b.toNat % 16)]
theorem escB_len (own : List UInt8) (b : UInt8) : 1 ≤ (escB own b).length ∧ (escB own b).length ≤ 3 := by unfold escB; split <;> simp
def dig (z : Int) : UInt8 := UInt8.ofNat (48 + z.toNat)
def timesT (mn mx : Int) : List UInt8 :=
  if mn = 0 ∧ mx = -1 then [42] else if mn = 1 ∧ mx = -1 then [43] else if mn = 0 ∧ mx = 1 then [63] else if mx = -1 then [123, dig mn, 44, 125] else [123, dig mn, 44, dig mx, 125]
end Go.Proofs.YtkhcappjhefkjaaGreatDoor
