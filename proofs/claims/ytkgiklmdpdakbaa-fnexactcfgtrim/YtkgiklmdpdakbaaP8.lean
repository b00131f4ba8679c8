/- Whether a grammar is ok, plain; the small functions of the specification. -/
import Derived.Test.YtkgiklmdpdakbaaP2
namespace Go.Proofs.Ytkgiklmdpdakbaa
open Go.RowKit
set_option linter.unusedVariables false

/-- A call answers whether something holds. -/
def BoolPost (P : Prop) (w : World) (e : Ending) (w' : World) : Prop := ∃ r : Bool, e = .returned (.bool r) ∧ (r = true ↔ P) ∧ Below w.heap.size w w'

theorem iffF {P : Prop} (h : ¬ P) : (false = true ↔ P) := ⟨(fun e => by cases e), fun p => absurd p h⟩
theorem iffT {P : Prop} (h : P) : (true = true ↔ P) := ⟨fun _ => h, fun _ => rfl⟩

def inB (n lo hi : Int) : Bool := decide (lo ≤ n) && decide (n ≤ hi)
theorem inB_iff {n lo hi : Int} : inB n lo hi = true ↔ lo ≤ n ∧ n ≤ hi := by unfold inB; simp

set_option maxHeartbeats 400000 in
theorem in_any (n lo hi : Int) (w : World) :
    Calls Try.prog 28 #[.int .i64 n, .int .i64 lo, .int .i64 hi] w fun e w' => e = .returned (.bool (inB n lo hi)) ∧ w = w' := by
  go_enter Try.func28, Try.ntmps28
  go_wp2
  · go_ret
    exact ⟨ret_bool (by unfold inB; simp [*]), rfl⟩
  · go_ret
    exact ⟨ret_bool (by unfold inB; simp; omega), rfl⟩

/-- A name: 1 to 8 small letters. -/
def NameP (t : ByteArray) : Prop := 1 ≤ t.size ∧ t.size ≤ 8 ∧ ∀ j (h : j < t.size), 97 ≤ t[j].toNat ∧ t[j].toNat ≤ 122

set_option maxRecDepth 100000 in
set_option maxHeartbeats 1000000 in
theorem l2Name_any (t : ByteArray) (w : World) (hm : t.size ≤ 1048576) : Calls Try.prog 64 #[.string t] w (BoolPost (NameP t) w) := by
  by_cases h1 : t.size < 1
  · have h1' : (t.size : Int) < 1 := by omega
    have H := Lib.hid h1
    go_enter Try.func64, Try.ntmps64
    go_wp2
    go_ret
    exact ⟨false, rfl, iffF (fun h => by have := h.1; have := H.out; omega), Below.refl _ _⟩
  · by_cases h2 : 8 < t.size
    · have h2' : (8 : Int) < t.size := by omega
      have h1' : ¬ (t.size : Int) < 1 := by omega
      have H := Lib.hid h2
      go_enter Try.func64, Try.ntmps64
      go_wp2
      go_ret
      exact ⟨false, rfl, iffF (fun h => by have := h.2.1; have := H.out; omega), Below.refl _ _⟩
    · have h1' : ¬ (t.size : Int) < 1 := by omega
      have h2' : ¬ (8 : Int) < t.size := by omega
      go_enter Try.func64, Try.ntmps64
      go_wp2
      go_loop [3] (fun i => ∃ j : Nat, j ≤ t.size ∧ i = .int .i64 j ∧ Hid (∀ u (h : u < t.size), u < j → 97 ≤ t[u].toNat ∧ t[u].toNat ≤ 122)) (fun i => t.size - (intOf i).toNat)
      case atStart => exact ⟨0, Nat.zero_le _, rfl, fun u _ hu => by omega⟩
      case round =>
        obtain ⟨j, hj, rfl, HU⟩ := hrel
        by_cases hlt : j < t.size
        · have hlt' : (j : Int) < (t.size : Int) := by omega
          have HUJ : Hid (97 ≤ t[j].toNat ∧ t[j].toNat ≤ 122 → ∀ u (h : u < t.size), u < j + 1 → 97 ≤ t[u].toNat ∧ t[u].toNat ≤ 122) := fun h1 u hu huj => by
            rcases Nat.lt_succ_iff_lt_or_eq.1 huj with h3 | h3
            · exact HU.out u hu h3
            · subst h3; exact h1
          have HNO : Hid (NameP t → 97 ≤ t[j].toNat ∧ t[j].toNat ≤ 122) := fun h => h.2.2 j hlt
          by_cases g1 : t[j].toNat < 97
          · have g1' : (t[j].toNat : Int) < 97 := by omega
            have G := Lib.hid g1
            go_wp2
            go_ret
            exact ⟨false, rfl, iffF (fun h => by have := (HNO.out h).1; have := G.out; omega), Below.refl _ _⟩
          · have g1' : ¬ (t[j].toNat : Int) < 97 := by omega
            by_cases g2 : 122 < t[j].toNat
            · have g2' : (122 : Int) < (t[j].toNat : Int) := by omega
              have G := Lib.hid g2
              go_wp2
              go_ret
              exact ⟨false, rfl, iffF (fun h => by have := (HNO.out h).2; have := G.out; omega), Below.refl _ _⟩
            · have g2' : ¬ (122 : Int) < (t[j].toNat : Int) := by omega
              have HU2 := Lib.hid (HUJ.out ⟨by omega, by omega⟩)
              clear HU HUJ HNO
              go_wp2
              go_round
              case rel => exact ⟨j + 1, by omega, by go_num, HU2⟩
              case measure => simp [intOf]; omega
        · have hlt' : ¬ (j : Int) < (t.size : Int) := by omega
          go_wp2
          go_ret
          exact ⟨true, rfl, iffT ⟨by omega, by omega, fun u hu => HU.out u hu (by omega)⟩, Below.refl _ _⟩

/-- The place of a rule by its name, or -1. -/
def RuleIx (rs : List Ru) (t : ByteArray) (r : Int) : Prop := (r = -1 ∧ ∀ x ∈ rs, x.name ≠ t) ∨ ∃ k : Nat, r = k ∧ ∃ h : k < rs.length, rs[k].name = t ∧ ∀ j (h : j < rs.length), j < k → rs[j].name ≠ t
theorem RuleIx.one {rs : List Ru} {t : ByteArray} {r s : Int} (h : RuleIx rs t r) (h' : RuleIx rs t s) : r = s := by
  rcases h with ⟨h1, h2⟩ | ⟨k, h1, hk, h2, h3⟩
  · rcases h' with ⟨g1, g2⟩ | ⟨k', g1, hk', g2, g3⟩
    · rw [h1, g1]
    · exact absurd g2 (h2 _ (List.getElem_mem hk'))
  · rcases h' with ⟨g1, g2⟩ | ⟨k', g1, hk', g2, g3⟩
    · exact absurd h2 (g2 _ (List.getElem_mem hk))
    · rcases Nat.lt_trichotomy k k' with h | h | h
      · exact absurd h2 (g3 k hk h)
      · rw [h1, g1, h]
      · exact absurd g2 (h3 k' hk' h)
theorem RuleIx.ge {rs : List Ru} {t : ByteArray} {r : Int} (h : RuleIx rs t r) : 0 ≤ r ↔ ∃ x ∈ rs, x.name = t := by
  rcases h with ⟨h1, h2⟩ | ⟨k, h1, hk, h2, h3⟩
  · constructor
    · intro h; omega
    · rintro ⟨x, hx, e⟩; exact absurd e (h2 x hx)
  · exact ⟨fun _ => ⟨_, List.getElem_mem hk, h2⟩, fun _ => by omega⟩
theorem RuleIx.bound {rs : List Ru} {t : ByteArray} {r : Int} (h : RuleIx rs t r) : -1 ≤ r ∧ r < rs.length := by
  rcases h with ⟨h1, h2⟩ | ⟨k, h1, hk, h2, h3⟩ <;> omega

set_option maxRecDepth 100000 in
set_option maxHeartbeats 1000000 in
theorem l2Rule_any (rs : List Ru) (t : ByteArray) (a : Option Addr) (c B0 : Nat) (w : World) (hr : Rus w B0 a rs) (hm : rs.length ≤ 1048576) :
    Calls Try.prog 65 #[.agg #[.slice a rs.length c], .string t] w fun e w' => ∃ r : Int, e = .returned (.int .i64 r) ∧ RuleIx rs t r ∧ Below w.heap.size w w' := by
  have hbx : Below w.heap.size w (w.alloc (.cells #[.slice a rs.length c] 64)) := below_box _
  have HR := Lib.hid (hr.keep hbx)
  have k0 : (w.alloc (.cells #[.slice a rs.length c] 64)).cell? ⟨w.heap.size, 0, none⟩ = some (.slice a rs.length c) := by simp
  clear hr
  go_enter Try.func65, Try.ntmps65
  go_wp2
  generalize w.alloc (.cells #[.slice a rs.length c] 64) = W0 at *
  have kl := cell_lt k0
  simp only at kl
  go_loop [5] (fun i => ∃ j : Nat, j ≤ rs.length ∧ i = .int .i64 j ∧ Hid (∀ u (h : u < rs.length), u < j → rs[u].name ≠ t)) (fun i => rs.length - (intOf i).toNat)
  case atStart => exact ⟨0, Nat.zero_le _, rfl, fun u _ hu => by omega⟩
  case round =>
    obtain ⟨j, hj, rfl, HU⟩ := hrel
    by_cases hlt : j < rs.length
    · have hlt' : (j : Int) < (rs.length : Int) := by omega
      obtain ⟨b, off, rfl, hn⟩ := HR.out.at_ hlt
      have n0 := hn.n
      clear hn
      by_cases g : rs[j].name = t
      · have G := Lib.hid g
        have g1 : (rs[j].name.toList == t.toList) = true := by rw [g]; simp
        clear g
        go_wp2
        go_ret
        exact ⟨j, rfl, .inr ⟨j, rfl, hlt, G.out, HU⟩, hbx⟩
      · have g1 := str_ne g
        have HU2 : Hid (∀ u (h : u < rs.length), u < j + 1 → rs[u].name ≠ t) := fun u hu huj => by
          rcases Nat.lt_succ_iff_lt_or_eq.1 huj with h3 | h3
          · exact HU.out u hu h3
          · subst h3; exact g
        clear HU g
        go_wp2
        go_round
        case rel => exact ⟨j + 1, by omega, by go_num, HU2⟩
        case measure => simp [intOf]; omega
    · have hlt' : ¬ (j : Int) < (rs.length : Int) := by omega
      go_wp2
      go_ret
      refine ⟨-1, rfl, .inl ⟨rfl, fun x hx => ?_⟩, hbx⟩
      obtain ⟨u, hu, rfl⟩ := List.getElem_of_mem hx
      exact HU.out u hu (by omega)

/-- Nothing but kids. -/
def BareP (t : ByteArray) (lo hi : List Int) : Prop := t.size = 0 ∧ lo.length = 0 ∧ hi.length = 0
theorem empty_iff (t : ByteArray) : t.toList.isEmpty = decide (t.size = 0) := by
  rw [ByteArray.toList_eq]
  by_cases h : t.size = 0
  · have : t.data = #[] := Array.eq_empty_of_size_eq_zero h
    rw [decide_eq_true h, this]; rfl
  · rw [decide_eq_false h]
    cases e : t.data.toList with
    | nil => exact absurd (by have := congrArg List.length e; simpa using this) h
    | cons x r => rfl

set_option maxRecDepth 100000 in
set_option maxHeartbeats 1000000 in
theorem l2Bare_any (k : Int) (t : ByteArray) (lo hi : List Int) (nk : Nat) (mn mx : Int) (A B K : Option Addr) (ca cb kc : Nat) (w : World) (l2 : lo.length ≤ 1048576) (l3 : hi.length ≤ 1048576) :
    Calls Try.prog 80 #[.agg #[.int .i64 k, .string t, .slice A lo.length ca, .slice B hi.length cb, .slice K nk kc, .int .i64 mn, .int .i64 mx]] w (BoolPost (BareP t lo hi) w) := by
  have e := empty_iff t
  by_cases h : t.size = 0
  · rw [decide_eq_true h] at e
    have H := Lib.hid h
    clear h
    go_enter Try.func80, Try.ntmps80
    go_wp2
    go_ret
    refine ⟨_, rfl, ?_, below_box _⟩
    have := H.out
    first | rw [decide_eq_true_iff] | rw [beq_iff_eq]
    unfold BareP
    omega
  · rw [decide_eq_false h] at e
    have H := Lib.hid h
    clear h
    go_enter Try.func80, Try.ntmps80
    go_wp2
    go_ret
    exact ⟨false, rfl, iffF (fun h => H.out h.1), below_box _⟩

end Go.Proofs.Ytkgiklmdpdakbaa
