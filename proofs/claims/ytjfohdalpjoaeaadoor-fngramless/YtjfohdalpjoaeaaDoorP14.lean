/- impl.exprOf: a part by its kind (written by tools/gen_p14.py). -/
import Derived.Test.YtjfohdalpjoaeaaDoorP12
namespace Go.Proofs.YtjfohdalpjoaeaaDoor
open Go.RowKit
set_option linter.unusedVariables false

/-- A part by its kind, or nothing. -/
def ExPost (v : Value) (R : Prop) (w : World) (e : Ending) (w' : World) : Prop := ∃ x, e = .returned x ∧ ((R ∧ x = v) ∨ (¬ R ∧ x = .nilIface)) ∧ Below w.heap.size w w'

def R1 (t : ByteArray) (lo hi : List Int) (kids : List Pt) (mn mx : Int) : Prop := lo.length = 0 ∧ hi.length = 0 ∧ kids.length = 0 ∧ mn = 0 ∧ mx = 0
set_option maxRecDepth 100000 in
set_option maxHeartbeats 2000000 in
theorem exprOf1 (t : ByteArray) (lo hi : List Int) (kids : List Pt) (mn mx : Int) (A B K : Option Addr) (ca cb kc : Nat) (w : World) (l2 : lo.length ≤ 1048576) (l3 : hi.length ≤ 1048576) (l4 : kids.length ≤ 1048576) :
    Calls Tryd.prog 38 #[.agg #[.int .i64 1, .string t, .slice A lo.length ca, .slice B hi.length cb, .slice K kids.length kc, .int .i64 mn, .int .i64 mx]] w (ExPost (.iface 95 (.string t)) (R1 t lo hi kids mn mx) w) := by
  by_cases g0 : lo.length = 0 ∧ hi.length = 0 ∧ kids.length = 0
  · have u2 : (lo.length : Int) + (hi.length : Int) + (kids.length : Int) ≤ 0 := by omega
    by_cases g1 : mn = 0
    · have u3 : (mn != 0) = false := by simp [g1]
      by_cases g2 : mx = 0
      · have u4 : (mx != 0) = false := by simp [g2]
        have HR : Hid (R1 t lo hi kids mn mx) := ⟨g0.1, g0.2.1, g0.2.2, g1, g2⟩
        clear g0 g1 g2
        go_enter Tryd.func38, Tryd.ntmps38
        go_wp2
        go_ret
        exact ⟨_, rfl, .inl ⟨HR.out, rfl⟩, (below_box _).alloc (by simp) _⟩
      · have u4 : (mx != 0) = true := by simp [g2]
        have HR : Hid (¬ R1 t lo hi kids mn mx) := fun h => g2 (by unfold R1 at h; omega)
        clear g0 g1 g2
        go_enter Tryd.func38, Tryd.ntmps38
        go_wp2
        go_ret
        exact ⟨_, rfl, .inr ⟨HR.out, rfl⟩, (below_box _).alloc (by simp) _⟩
    · have u3 : (mn != 0) = true := by simp [g1]
      have HR : Hid (¬ R1 t lo hi kids mn mx) := fun h => g1 (by unfold R1 at h; omega)
      clear g0 g1
      go_enter Tryd.func38, Tryd.ntmps38
      go_wp2
      go_ret
      exact ⟨_, rfl, .inr ⟨HR.out, rfl⟩, (below_box _).alloc (by simp) _⟩
  · have u2 : 0 < (lo.length : Int) + (hi.length : Int) + (kids.length : Int) := by omega
    have HR : Hid (¬ R1 t lo hi kids mn mx) := fun h => g0 (by unfold R1 at h; exact ⟨by omega, by omega, by omega⟩)
    clear g0
    go_enter Tryd.func38, Tryd.ntmps38
    go_wp2
    go_ret
    exact ⟨_, rfl, .inr ⟨HR.out, rfl⟩, (below_box _).alloc (by simp) _⟩

def R2 (t : ByteArray) (lo hi : List Int) (kids : List Pt) (mn mx : Int) : Prop := t.size = 0 ∧ kids.length = 0 ∧ mn = 0 ∧ mx = 0
set_option maxRecDepth 100000 in
set_option maxHeartbeats 2000000 in
theorem exprOf2 (t : ByteArray) (lo hi : List Int) (kids : List Pt) (mn mx : Int) (A B K : Option Addr) (ca cb kc : Nat) (w : World) (l2 : lo.length ≤ 1048576) (l3 : hi.length ≤ 1048576) (l4 : kids.length ≤ 1048576) :
    Calls Tryd.prog 38 #[.agg #[.int .i64 2, .string t, .slice A lo.length ca, .slice B hi.length cb, .slice K kids.length kc, .int .i64 mn, .int .i64 mx]] w (ExPost (.iface 97 (.agg #[.slice A lo.length ca, .slice B hi.length cb])) (R2 t lo hi kids mn mx) w) := by
  by_cases g0 : t.size = 0
  · have u1 : t.toList.isEmpty = true := by rw [empty_iff]; simp [g0]
    by_cases g1 : kids = []
    · have u2 : kids = [] := g1
      have g1' : kids.length = 0 := by simp [g1]
      by_cases g2 : mn = 0
      · have u3 : (mn != 0) = false := by simp [g2]
        by_cases g3 : mx = 0
        · have u4 : (mx != 0) = false := by simp [g3]
          have HR : Hid (R2 t lo hi kids mn mx) := ⟨g0, g1', g2, g3⟩
          clear g0 g1 g1' g2 g3
          go_enter Tryd.func38, Tryd.ntmps38
          go_wp2
          go_ret
          exact ⟨_, rfl, .inl ⟨HR.out, rfl⟩, (below_box _).alloc (by simp) _⟩
        · have u4 : (mx != 0) = true := by simp [g3]
          have HR : Hid (¬ R2 t lo hi kids mn mx) := fun h => g3 (by unfold R2 at h; omega)
          clear g0 g1 g1' g2 g3
          go_enter Tryd.func38, Tryd.ntmps38
          go_wp2
          go_ret
          exact ⟨_, rfl, .inr ⟨HR.out, rfl⟩, (below_box _).alloc (by simp) _⟩
      · have u3 : (mn != 0) = true := by simp [g2]
        have HR : Hid (¬ R2 t lo hi kids mn mx) := fun h => g2 (by unfold R2 at h; omega)
        clear g0 g1 g1' g2
        go_enter Tryd.func38, Tryd.ntmps38
        go_wp2
        go_ret
        exact ⟨_, rfl, .inr ⟨HR.out, rfl⟩, (below_box _).alloc (by simp) _⟩
    · have g1' : ¬ kids.length = 0 := by simpa using g1
      have HR : Hid (¬ R2 t lo hi kids mn mx) := fun h => g1' (by unfold R2 at h; omega)
      clear g0 g1'
      obtain ⟨x, r, rfl⟩ : ∃ x r, kids = x :: r := by cases kids with | nil => exact absurd rfl g1 | cons x r => exact ⟨x, r, rfl⟩
      clear g1
      have l4' : r.length + 1 ≤ 1048576 := by simpa using l4
      have u2 : (0 : Int) < (r.length : Int) + 1 := by omega
      go_enter Tryd.func38, Tryd.ntmps38
      go_wp2
      go_ret
      exact ⟨_, rfl, .inr ⟨HR.out, rfl⟩, (below_box _).alloc (by simp) _⟩
  · have u1 : t.toList.isEmpty = false := by rw [empty_iff]; simp [g0]
    have HR : Hid (¬ R2 t lo hi kids mn mx) := fun h => g0 (by unfold R2 at h; omega)
    clear g0
    go_enter Tryd.func38, Tryd.ntmps38
    go_wp2
    go_ret
    exact ⟨_, rfl, .inr ⟨HR.out, rfl⟩, (below_box _).alloc (by simp) _⟩

def R3 (t : ByteArray) (lo hi : List Int) (kids : List Pt) (mn mx : Int) : Prop := lo.length = 0 ∧ hi.length = 0 ∧ kids.length = 0 ∧ mn = 0 ∧ mx = 0
set_option maxRecDepth 100000 in
set_option maxHeartbeats 2000000 in
theorem exprOf3 (t : ByteArray) (lo hi : List Int) (kids : List Pt) (mn mx : Int) (A B K : Option Addr) (ca cb kc : Nat) (w : World) (l2 : lo.length ≤ 1048576) (l3 : hi.length ≤ 1048576) (l4 : kids.length ≤ 1048576) :
    Calls Tryd.prog 38 #[.agg #[.int .i64 3, .string t, .slice A lo.length ca, .slice B hi.length cb, .slice K kids.length kc, .int .i64 mn, .int .i64 mx]] w (ExPost (.iface 98 (.string t)) (R3 t lo hi kids mn mx) w) := by
  by_cases g0 : lo.length = 0 ∧ hi.length = 0 ∧ kids.length = 0
  · have u2 : (lo.length : Int) + (hi.length : Int) + (kids.length : Int) ≤ 0 := by omega
    by_cases g1 : mn = 0
    · have u3 : (mn != 0) = false := by simp [g1]
      by_cases g2 : mx = 0
      · have u4 : (mx != 0) = false := by simp [g2]
        have HR : Hid (R3 t lo hi kids mn mx) := ⟨g0.1, g0.2.1, g0.2.2, g1, g2⟩
        clear g0 g1 g2
        go_enter Tryd.func38, Tryd.ntmps38
        go_wp2
        go_ret
        exact ⟨_, rfl, .inl ⟨HR.out, rfl⟩, (below_box _).alloc (by simp) _⟩
      · have u4 : (mx != 0) = true := by simp [g2]
        have HR : Hid (¬ R3 t lo hi kids mn mx) := fun h => g2 (by unfold R3 at h; omega)
        clear g0 g1 g2
        go_enter Tryd.func38, Tryd.ntmps38
        go_wp2
        go_ret
        exact ⟨_, rfl, .inr ⟨HR.out, rfl⟩, (below_box _).alloc (by simp) _⟩
    · have u3 : (mn != 0) = true := by simp [g1]
      have HR : Hid (¬ R3 t lo hi kids mn mx) := fun h => g1 (by unfold R3 at h; omega)
      clear g0 g1
      go_enter Tryd.func38, Tryd.ntmps38
      go_wp2
      go_ret
      exact ⟨_, rfl, .inr ⟨HR.out, rfl⟩, (below_box _).alloc (by simp) _⟩
  · have u2 : 0 < (lo.length : Int) + (hi.length : Int) + (kids.length : Int) := by omega
    have HR : Hid (¬ R3 t lo hi kids mn mx) := fun h => g0 (by unfold R3 at h; exact ⟨by omega, by omega, by omega⟩)
    clear g0
    go_enter Tryd.func38, Tryd.ntmps38
    go_wp2
    go_ret
    exact ⟨_, rfl, .inr ⟨HR.out, rfl⟩, (below_box _).alloc (by simp) _⟩

def R4 (t : ByteArray) (lo hi : List Int) (kids : List Pt) (mn mx : Int) : Prop := t.size = 0 ∧ lo.length = 0 ∧ hi.length = 0 ∧ mn = 0 ∧ mx = 0
set_option maxRecDepth 100000 in
set_option maxHeartbeats 2000000 in
theorem exprOf4 (t : ByteArray) (lo hi : List Int) (kids : List Pt) (mn mx : Int) (A B K : Option Addr) (ca cb kc : Nat) (w : World) (l2 : lo.length ≤ 1048576) (l3 : hi.length ≤ 1048576) (l4 : kids.length ≤ 1048576) :
    Calls Tryd.prog 38 #[.agg #[.int .i64 4, .string t, .slice A lo.length ca, .slice B hi.length cb, .slice K kids.length kc, .int .i64 mn, .int .i64 mx]] w (ExPost (.iface 99 (.slice K kids.length kc)) (R4 t lo hi kids mn mx) w) := by
  by_cases g0 : t.size = 0
  · have u1 : t.toList.isEmpty = true := by rw [empty_iff]; simp [g0]
    by_cases g1 : lo.length = 0 ∧ hi.length = 0
    · have u2 : (lo.length : Int) + (hi.length : Int) ≤ 0 := by omega
      by_cases g2 : mn = 0
      · have u3 : (mn != 0) = false := by simp [g2]
        by_cases g3 : mx = 0
        · have u4 : (mx != 0) = false := by simp [g3]
          have HR : Hid (R4 t lo hi kids mn mx) := ⟨g0, g1.1, g1.2, g2, g3⟩
          clear g0 g1 g2 g3
          go_enter Tryd.func38, Tryd.ntmps38
          go_wp2
          go_ret
          exact ⟨_, rfl, .inl ⟨HR.out, rfl⟩, (below_box _).alloc (by simp) _⟩
        · have u4 : (mx != 0) = true := by simp [g3]
          have HR : Hid (¬ R4 t lo hi kids mn mx) := fun h => g3 (by unfold R4 at h; omega)
          clear g0 g1 g2 g3
          go_enter Tryd.func38, Tryd.ntmps38
          go_wp2
          go_ret
          exact ⟨_, rfl, .inr ⟨HR.out, rfl⟩, (below_box _).alloc (by simp) _⟩
      · have u3 : (mn != 0) = true := by simp [g2]
        have HR : Hid (¬ R4 t lo hi kids mn mx) := fun h => g2 (by unfold R4 at h; omega)
        clear g0 g1 g2
        go_enter Tryd.func38, Tryd.ntmps38
        go_wp2
        go_ret
        exact ⟨_, rfl, .inr ⟨HR.out, rfl⟩, (below_box _).alloc (by simp) _⟩
    · have u2 : 0 < (lo.length : Int) + (hi.length : Int) := by omega
      have HR : Hid (¬ R4 t lo hi kids mn mx) := fun h => g1 (by unfold R4 at h; exact ⟨by omega, by omega⟩)
      clear g0 g1
      go_enter Tryd.func38, Tryd.ntmps38
      go_wp2
      go_ret
      exact ⟨_, rfl, .inr ⟨HR.out, rfl⟩, (below_box _).alloc (by simp) _⟩
  · have u1 : t.toList.isEmpty = false := by rw [empty_iff]; simp [g0]
    have HR : Hid (¬ R4 t lo hi kids mn mx) := fun h => g0 (by unfold R4 at h; omega)
    clear g0
    go_enter Tryd.func38, Tryd.ntmps38
    go_wp2
    go_ret
    exact ⟨_, rfl, .inr ⟨HR.out, rfl⟩, (below_box _).alloc (by simp) _⟩

def R5 (t : ByteArray) (lo hi : List Int) (kids : List Pt) (mn mx : Int) : Prop := t.size = 0 ∧ lo.length = 0 ∧ hi.length = 0 ∧ mn = 0 ∧ mx = 0
set_option maxRecDepth 100000 in
set_option maxHeartbeats 2000000 in
theorem exprOf5 (t : ByteArray) (lo hi : List Int) (kids : List Pt) (mn mx : Int) (A B K : Option Addr) (ca cb kc : Nat) (w : World) (l2 : lo.length ≤ 1048576) (l3 : hi.length ≤ 1048576) (l4 : kids.length ≤ 1048576) :
    Calls Tryd.prog 38 #[.agg #[.int .i64 5, .string t, .slice A lo.length ca, .slice B hi.length cb, .slice K kids.length kc, .int .i64 mn, .int .i64 mx]] w (ExPost (.iface 100 (.slice K kids.length kc)) (R5 t lo hi kids mn mx) w) := by
  by_cases g0 : t.size = 0
  · have u1 : t.toList.isEmpty = true := by rw [empty_iff]; simp [g0]
    by_cases g1 : lo.length = 0 ∧ hi.length = 0
    · have u2 : (lo.length : Int) + (hi.length : Int) ≤ 0 := by omega
      by_cases g2 : mn = 0
      · have u3 : (mn != 0) = false := by simp [g2]
        by_cases g3 : mx = 0
        · have u4 : (mx != 0) = false := by simp [g3]
          have HR : Hid (R5 t lo hi kids mn mx) := ⟨g0, g1.1, g1.2, g2, g3⟩
          clear g0 g1 g2 g3
          go_enter Tryd.func38, Tryd.ntmps38
          go_wp2
          go_ret
          exact ⟨_, rfl, .inl ⟨HR.out, rfl⟩, (below_box _).alloc (by simp) _⟩
        · have u4 : (mx != 0) = true := by simp [g3]
          have HR : Hid (¬ R5 t lo hi kids mn mx) := fun h => g3 (by unfold R5 at h; omega)
          clear g0 g1 g2 g3
          go_enter Tryd.func38, Tryd.ntmps38
          go_wp2
          go_ret
          exact ⟨_, rfl, .inr ⟨HR.out, rfl⟩, (below_box _).alloc (by simp) _⟩
      · have u3 : (mn != 0) = true := by simp [g2]
        have HR : Hid (¬ R5 t lo hi kids mn mx) := fun h => g2 (by unfold R5 at h; omega)
        clear g0 g1 g2
        go_enter Tryd.func38, Tryd.ntmps38
        go_wp2
        go_ret
        exact ⟨_, rfl, .inr ⟨HR.out, rfl⟩, (below_box _).alloc (by simp) _⟩
    · have u2 : 0 < (lo.length : Int) + (hi.length : Int) := by omega
      have HR : Hid (¬ R5 t lo hi kids mn mx) := fun h => g1 (by unfold R5 at h; exact ⟨by omega, by omega⟩)
      clear g0 g1
      go_enter Tryd.func38, Tryd.ntmps38
      go_wp2
      go_ret
      exact ⟨_, rfl, .inr ⟨HR.out, rfl⟩, (below_box _).alloc (by simp) _⟩
  · have u1 : t.toList.isEmpty = false := by rw [empty_iff]; simp [g0]
    have HR : Hid (¬ R5 t lo hi kids mn mx) := fun h => g0 (by unfold R5 at h; omega)
    clear g0
    go_enter Tryd.func38, Tryd.ntmps38
    go_wp2
    go_ret
    exact ⟨_, rfl, .inr ⟨HR.out, rfl⟩, (below_box _).alloc (by simp) _⟩

def R6 (t : ByteArray) (lo hi : List Int) (kids : List Pt) (mn mx : Int) : Prop := t.size = 0 ∧ lo.length = 0 ∧ hi.length = 0
set_option maxRecDepth 100000 in
set_option maxHeartbeats 2000000 in
theorem exprOf6 (t : ByteArray) (lo hi : List Int) (kids : List Pt) (mn mx : Int) (A B K : Option Addr) (ca cb kc : Nat) (w : World) (l2 : lo.length ≤ 1048576) (l3 : hi.length ≤ 1048576) (l4 : kids.length ≤ 1048576) :
    Calls Tryd.prog 38 #[.agg #[.int .i64 6, .string t, .slice A lo.length ca, .slice B hi.length cb, .slice K kids.length kc, .int .i64 mn, .int .i64 mx]] w (ExPost (.iface 102 (.agg #[.slice K kids.length kc, .int .i64 mn, .int .i64 mx])) (R6 t lo hi kids mn mx) w) := by
  by_cases g0 : t.size = 0
  · have u1 : t.toList.isEmpty = true := by rw [empty_iff]; simp [g0]
    by_cases g1 : lo.length = 0 ∧ hi.length = 0
    · have u2 : (lo.length : Int) + (hi.length : Int) ≤ 0 := by omega
      have HR : Hid (R6 t lo hi kids mn mx) := ⟨g0, g1.1, g1.2⟩
      clear g0 g1
      go_enter Tryd.func38, Tryd.ntmps38
      go_wp2
      go_ret
      exact ⟨_, rfl, .inl ⟨HR.out, rfl⟩, (below_box _).alloc (by simp) _⟩
    · have u2 : 0 < (lo.length : Int) + (hi.length : Int) := by omega
      have HR : Hid (¬ R6 t lo hi kids mn mx) := fun h => g1 (by unfold R6 at h; exact ⟨by omega, by omega⟩)
      clear g0 g1
      go_enter Tryd.func38, Tryd.ntmps38
      go_wp2
      go_ret
      exact ⟨_, rfl, .inr ⟨HR.out, rfl⟩, (below_box _).alloc (by simp) _⟩
  · have u1 : t.toList.isEmpty = false := by rw [empty_iff]; simp [g0]
    have HR : Hid (¬ R6 t lo hi kids mn mx) := fun h => g0 (by unfold R6 at h; omega)
    clear g0
    go_enter Tryd.func38, Tryd.ntmps38
    go_wp2
    go_ret
    exact ⟨_, rfl, .inr ⟨HR.out, rfl⟩, (below_box _).alloc (by simp) _⟩

set_option maxRecDepth 100000 in
set_option maxHeartbeats 2000000 in
theorem exprOfN (k : Int) (t : ByteArray) (lo hi : List Int) (kids : List Pt) (mn mx : Int) (A B K : Option Addr) (ca cb kc : Nat) (w : World) (l2 : lo.length ≤ 1048576) (l3 : hi.length ≤ 1048576) (l4 : kids.length ≤ 1048576) (hk : k ≠ 1 ∧ k ≠ 2 ∧ k ≠ 3 ∧ k ≠ 4 ∧ k ≠ 5 ∧ k ≠ 6) :
    Calls Tryd.prog 38 #[.agg #[.int .i64 k, .string t, .slice A lo.length ca, .slice B hi.length cb, .slice K kids.length kc, .int .i64 mn, .int .i64 mx]] w fun e w' => e = .returned .nilIface ∧ Below w.heap.size w w' := by
  obtain ⟨h1, h2, h3, h4, h5, h6⟩ := hk
  have n1 : (k == 1) = false := by simp [h1]
  have n2 : (k == 2) = false := by simp [h2]
  have n3 : (k == 3) = false := by simp [h3]
  have n4 : (k == 4) = false := by simp [h4]
  have n5 : (k == 5) = false := by simp [h5]
  have n6 : (k == 6) = false := by simp [h6]
  clear h1 h2 h3 h4 h5 h6
  go_enter Tryd.func38, Tryd.ntmps38
  go_wp2
  all_goals go_ret
  all_goals exact ⟨rfl, (below_box _).alloc (by simp) _⟩

end Go.Proofs.YtjfohdalpjoaeaaDoor
