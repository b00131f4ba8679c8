/- Whether a grammar is ok, plain; the small functions of the specification. -/
import Derived.Test.YtkhcappjhefkjaaGreatDoorBase
import Derived.IntWalk
namespace Go.Proofs.YtkhcappjhefkjaaGreatDoor
open Go.RowKit
set_option linter.unusedVariables false

/-- A call answers whether something holds. -/
def BoolPost (P : Prop) (w : World) (e : Ending) (w' : World) : Prop := ∃ r : Bool, e = .returned (.bool r) ∧ (r = true ↔ P) ∧ Below w.heap.size w w'

theorem iffF {P : Prop} (h : ¬ P) : (false = true ↔ P) := ⟨(fun e => by cases e), fun p => absurd p h⟩
theorem iffT {P : Prop} (h : P) : (true = true ↔ P) := ⟨fun _ => h, fun _ => rfl⟩

def inB (n lo hi : Int) : Bool := decide (lo ≤ n) && decide (n ≤ hi)
theorem inB_iff {n lo hi : Int} : inB n lo hi = true ↔ lo ≤ n ∧ n ≤ hi := by unfold inB; simp

/-- A name: 1 to 8 small letters. -/
def NameP (t : ByteArray) : Prop := 1 ≤ t.size ∧ t.size ≤ 8 ∧ ∀ j (h : j < t.size), 97 ≤ t[j].toNat ∧ t[j].toNat ≤ 122

set_option maxRecDepth 100000 in
set_option maxHeartbeats 1000000 in
theorem l2Name_any (t : ByteArray) (w : World) (hm : t.size ≤ 1048576) : Calls Tryz.prog 88 #[.string t] w (BoolPost (NameP t) w) := by
  by_cases h1 : t.size < 1
  · have h1' : (t.size : Int) < 1 := by omega
    have H := Lib.hid h1
    go_enter Tryz.func88, Tryz.ntmps88
    go_wp2
    go_ret
    exact ⟨false, rfl, iffF (fun h => by have := h.1; have := H.out; omega), Below.refl _ _⟩
  · by_cases h2 : 8 < t.size
    · have h2' : (8 : Int) < t.size := by omega
      have h1' : ¬ (t.size : Int) < 1 := by omega
      have H := Lib.hid h2
      go_enter Tryz.func88, Tryz.ntmps88
      go_wp2
      go_ret
      exact ⟨false, rfl, iffF (fun h => by have := h.2.1; have := H.out; omega), Below.refl _ _⟩
    · have h1' : ¬ (t.size : Int) < 1 := by omega
      have h2' : ¬ (8 : Int) < t.size := by omega
      go_enter Tryz.func88, Tryz.ntmps88
      go_wp2
      go_loop [3] (fun i => ∃ j : Nat, j ≤ t.size ∧ i = .int .i64 j ∧ Hid (∀ u (h : u < t.size), u < j → 97 ≤ t[u].toNat ∧ t[u].toNat ≤ 122)) (fun i => t.size - (intOf i).toNat)
      case atStart => exact ⟨0, Nat.zero_le _, rfl, fun u _ hu => by omega⟩
      case round =>
        obtain ⟨j, hj, rfl, HU⟩ := hrel
        by_cases hlt : j < t.size
        · have hlt' : (j : Int) < (t.size : Int) := by omega
          have HUJ : Hid (97 ≤ t[j].toNat ∧ t[j].toNat ≤ 122 → ∀ u (h : u < t.size), u < j + 1 → 97 ≤ t[u].toNat ∧ t[u].toNat ≤ 122) := fun h1 u hu huj => by
            rcases Nat.lt_succ_iff_lt_or_eq.1 huj with h3 | h3
            · exact HU.out u hu h3
            · subst h3; exact h1
          have HNO : Hid (NameP t → 97 ≤ t[j].toNat ∧ t[j].toNat ≤ 122) := fun h => h.2.2 j hlt
          by_cases g1 : t[j].toNat < 97
          · have g1' : (t[j].toNat : Int) < 97 := by omega
            have G := Lib.hid g1
            go_wp2
            go_ret
            exact ⟨false, rfl, iffF (fun h => by have := (HNO.out h).1; have := G.out; omega), Below.refl _ _⟩
          · have g1' : ¬ (t[j].toNat : Int) < 97 := by omega
            by_cases g2 : 122 < t[j].toNat
            · have g2' : (122 : Int) < (t[j].toNat : Int) := by omega
              have G := Lib.hid g2
              go_wp2
              go_ret
              exact ⟨false, rfl, iffF (fun h => by have := (HNO.out h).2; have := G.out; omega), Below.refl _ _⟩
            · have g2' : ¬ (122 : Int) < (t[j].toNat : Int) := by omega
              have HU2 := Lib.hid (HUJ.out ⟨by omega, by omega⟩)
              clear HU HUJ HNO
              go_wp2
              go_round
              case rel => exact ⟨j + 1, by omega, by go_num, HU2⟩
              case measure => simp [intOf]; omega
        · have hlt' : ¬ (j : Int) < (t.size : Int) := by omega
          go_wp2
          go_ret
          exact ⟨true, rfl, iffT ⟨by omega, by omega, fun u hu => HU.out u hu (by omega)⟩, Below.refl _ _⟩

end Go.Proofs.YtkhcappjhefkjaaGreatDoor

/- Bytes of a grammar's text, plain. -/
namespace Go.Proofs.YtkhcappjhefkjaaGreatDoor
open Go.RowKit
set_option linter.unusedVariables false

/-- The bytes of a string. -/
def bl (s : ByteArray) : List UInt8 := s.data.toList
theorem bl_size (s : ByteArray) : s.size = (bl s).length := (Array.length_toList (xs := s.data)).symm
theorem bl_append (a b : ByteArray) : bl (a ++ b) = bl a ++ bl b := by unfold bl; simp
theorem bl_inj {a b : ByteArray} (h : bl a = bl b) : a = b := by
  unfold bl at h
  have := Array.toList_inj.1 h
  cases a; cases b; simp_all
theorem bl_get (s : ByteArray) (i : Nat) (h : i < s.size) : (bl s)[i]'(by rw [← bl_size]; exact h) = s[i] := by unfold bl; rfl

def hexd (n : Nat) : UInt8 := if n < 10 then UInt8.ofNat (48 + n) else UInt8.ofNat (87 + n)
def plainB (own : List UInt8) (b : UInt8) : Bool := decide (32 ≤ b.toNat) && decide (b.toNat ≤ 126) && b != 92 && !own.contains b
/-- A byte as it is written. -/
def escB (own : List UInt8) (b : UInt8) : List UInt8 := if plainB own b = true then [b] else [92, hexd (b.toNat / 16), hexd (b.toNat % 16)]
theorem escB_len (own : List UInt8) (b : UInt8) : 1 ≤ (escB own b).length ∧ (escB own b).length ≤ 3 := by unfold escB; split <;> simp
def dig (z : Int) : UInt8 := UInt8.ofNat (48 + z.toNat)
def timesT (mn mx : Int) : List UInt8 :=
  if mn = 0 ∧ mx = -1 then [42] else if mn = 1 ∧ mx = -1 then [43] else if mn = 0 ∧ mx = 1 then [63] else if mx = -1 then [123, dig mn, 44, 125] else [123, dig mn, 44, dig mx, 125]
end Go.Proofs.YtkhcappjhefkjaaGreatDoor

