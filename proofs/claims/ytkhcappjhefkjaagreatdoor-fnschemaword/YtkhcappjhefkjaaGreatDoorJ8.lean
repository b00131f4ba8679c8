/- impl.valueOf: a value by its kind (written by tools/json/gen_j8.py). -/
import Derived.Test.YtkhcappjhefkjaaGreatDoorJ5
namespace Go.Proofs.YtkhcappjhefkjaaGreatDoor
open Go.RowKit
set_option linter.unusedVariables false

/-- A value by its kind, or nothing. -/
def ExPost (v : Value) (R : Prop) (w : World) (e : Ending) (w' : World) : Prop := ∃ x, e = .returned x ∧ ((R ∧ x = v) ∨ (¬ R ∧ x = .nilIface)) ∧ Below w.heap.size w w'

def R1 (f : Bool) (t : ByteArray) (ns : List ByteArray) (kids : List Js) : Prop := f = false ∧ t.size = 0 ∧ ns.length + kids.length = 0
set_option maxRecDepth 100000 in
set_option maxHeartbeats 2000000 in
theorem valueOf1 (f : Bool) (t : ByteArray) (ns : List ByteArray) (kids : List Js) (A K : Option Addr) (ca kc : Nat) (w : World) (l2 : ns.length ≤ 1048576) (l4 : kids.length ≤ 1048576) :
    Calls Tryz.prog 119 #[.agg #[.int .i64 1, .bool f, .string t, .slice A ns.length ca, .slice K kids.length kc]] w (ExPost (.iface 145 (.agg #[])) (R1 f t ns kids) w) := by
  cases f
  · have g_f : false = false := rfl
    by_cases g_t : t.size = 0
    · have u_t : t.toList.isEmpty = true := by rw [empty_iff]; simp [g_t]
      by_cases g_s : ns.length + kids.length = 0
      · have u_s : (ns.length : Int) + (kids.length : Int) ≤ 0 := by omega
        have HR : Hid (R1 false t ns kids) := ⟨g_f, g_t, g_s⟩
        (try clear g_s)
        (try clear g_t)
        (try clear g_n)
        go_enter Tryz.func119, Tryz.ntmps119
        go_wp2
        go_ret
        exact ⟨_, rfl, .inl ⟨HR.out, rfl⟩, (below_box _).alloc (by simp) _⟩
      · have u_s : 0 < (ns.length : Int) + (kids.length : Int) := by omega
        have HR : Hid (¬ R1 false t ns kids) := fun h => g_s (by unfold R1 at h; first | exact h | exact h.1 | exact h.2 | exact h.2.1 | exact h.2.2)
        clear g_s
        (try clear g_t)
        go_enter Tryz.func119, Tryz.ntmps119
        go_wp2
        go_ret
        exact ⟨_, rfl, .inr ⟨HR.out, rfl⟩, (below_box _).alloc (by simp) _⟩
    · have u_t : t.toList.isEmpty = false := by rw [empty_iff]; simp [g_t]
      have HR : Hid (¬ R1 false t ns kids) := fun h => g_t (by unfold R1 at h; first | exact h | exact h.1 | exact h.2 | exact h.2.1 | exact h.2.2)
      clear g_t
      (try clear g_t)
      go_enter Tryz.func119, Tryz.ntmps119
      go_wp2
      go_ret
      exact ⟨_, rfl, .inr ⟨HR.out, rfl⟩, (below_box _).alloc (by simp) _⟩
  ·
    have HR : Hid (¬ R1 true t ns kids) := fun h => by unfold R1 at h; have := h.1; cases this
    go_enter Tryz.func119, Tryz.ntmps119
    go_wp2
    go_ret
    exact ⟨_, rfl, .inr ⟨HR.out, rfl⟩, (below_box _).alloc (by simp) _⟩

def R2 (f : Bool) (t : ByteArray) (ns : List ByteArray) (kids : List Js) : Prop := t.size = 0 ∧ ns.length + kids.length = 0
set_option maxRecDepth 100000 in
set_option maxHeartbeats 2000000 in
theorem valueOf2 (f : Bool) (t : ByteArray) (ns : List ByteArray) (kids : List Js) (A K : Option Addr) (ca kc : Nat) (w : World) (l2 : ns.length ≤ 1048576) (l4 : kids.length ≤ 1048576) :
    Calls Tryz.prog 119 #[.agg #[.int .i64 2, .bool f, .string t, .slice A ns.length ca, .slice K kids.length kc]] w (ExPost (.iface 146 (.bool f)) (R2 f t ns kids) w) := by
  by_cases g_t : t.size = 0
  · have u_t : t.toList.isEmpty = true := by rw [empty_iff]; simp [g_t]
    by_cases g_s : ns.length + kids.length = 0
    · have u_s : (ns.length : Int) + (kids.length : Int) ≤ 0 := by omega
      have HR : Hid (R2 f t ns kids) := ⟨g_t, g_s⟩
      (try clear g_s)
      (try clear g_t)
      (try clear g_n)
      go_enter Tryz.func119, Tryz.ntmps119
      go_wp2
      go_ret
      exact ⟨_, rfl, .inl ⟨HR.out, rfl⟩, (below_box _).alloc (by simp) _⟩
    · have u_s : 0 < (ns.length : Int) + (kids.length : Int) := by omega
      have HR : Hid (¬ R2 f t ns kids) := fun h => g_s (by unfold R2 at h; first | exact h | exact h.1 | exact h.2 | exact h.2.1 | exact h.2.2)
      clear g_s
      (try clear g_t)
      go_enter Tryz.func119, Tryz.ntmps119
      go_wp2
      go_ret
      exact ⟨_, rfl, .inr ⟨HR.out, rfl⟩, (below_box _).alloc (by simp) _⟩
  · have u_t : t.toList.isEmpty = false := by rw [empty_iff]; simp [g_t]
    have HR : Hid (¬ R2 f t ns kids) := fun h => g_t (by unfold R2 at h; first | exact h | exact h.1 | exact h.2 | exact h.2.1 | exact h.2.2)
    clear g_t
    (try clear g_t)
    go_enter Tryz.func119, Tryz.ntmps119
    go_wp2
    go_ret
    exact ⟨_, rfl, .inr ⟨HR.out, rfl⟩, (below_box _).alloc (by simp) _⟩

def R3 (f : Bool) (t : ByteArray) (ns : List ByteArray) (kids : List Js) : Prop := f = false ∧ ns.length + kids.length = 0
set_option maxRecDepth 100000 in
set_option maxHeartbeats 2000000 in
theorem valueOf3 (f : Bool) (t : ByteArray) (ns : List ByteArray) (kids : List Js) (A K : Option Addr) (ca kc : Nat) (w : World) (l2 : ns.length ≤ 1048576) (l4 : kids.length ≤ 1048576) :
    Calls Tryz.prog 119 #[.agg #[.int .i64 3, .bool f, .string t, .slice A ns.length ca, .slice K kids.length kc]] w (ExPost (.iface 147 (.string t)) (R3 f t ns kids) w) := by
  cases f
  · have g_f : false = false := rfl
    by_cases g_s : ns.length + kids.length = 0
    · have u_s : (ns.length : Int) + (kids.length : Int) ≤ 0 := by omega
      have HR : Hid (R3 false t ns kids) := ⟨g_f, g_s⟩
      (try clear g_s)
      (try clear g_t)
      (try clear g_n)
      go_enter Tryz.func119, Tryz.ntmps119
      go_wp2
      go_ret
      exact ⟨_, rfl, .inl ⟨HR.out, rfl⟩, (below_box _).alloc (by simp) _⟩
    · have u_s : 0 < (ns.length : Int) + (kids.length : Int) := by omega
      have HR : Hid (¬ R3 false t ns kids) := fun h => g_s (by unfold R3 at h; first | exact h | exact h.1 | exact h.2 | exact h.2.1 | exact h.2.2)
      clear g_s
      (try clear g_t)
      go_enter Tryz.func119, Tryz.ntmps119
      go_wp2
      go_ret
      exact ⟨_, rfl, .inr ⟨HR.out, rfl⟩, (below_box _).alloc (by simp) _⟩
  ·
    have HR : Hid (¬ R3 true t ns kids) := fun h => by unfold R3 at h; have := h.1; cases this
    go_enter Tryz.func119, Tryz.ntmps119
    go_wp2
    go_ret
    exact ⟨_, rfl, .inr ⟨HR.out, rfl⟩, (below_box _).alloc (by simp) _⟩

def R4 (f : Bool) (t : ByteArray) (ns : List ByteArray) (kids : List Js) : Prop := f = false ∧ ns.length + kids.length = 0
set_option maxRecDepth 100000 in
set_option maxHeartbeats 2000000 in
theorem valueOf4 (f : Bool) (t : ByteArray) (ns : List ByteArray) (kids : List Js) (A K : Option Addr) (ca kc : Nat) (w : World) (l2 : ns.length ≤ 1048576) (l4 : kids.length ≤ 1048576) :
    Calls Tryz.prog 119 #[.agg #[.int .i64 4, .bool f, .string t, .slice A ns.length ca, .slice K kids.length kc]] w (ExPost (.iface 148 (.string t)) (R4 f t ns kids) w) := by
  cases f
  · have g_f : false = false := rfl
    by_cases g_s : ns.length + kids.length = 0
    · have u_s : (ns.length : Int) + (kids.length : Int) ≤ 0 := by omega
      have HR : Hid (R4 false t ns kids) := ⟨g_f, g_s⟩
      (try clear g_s)
      (try clear g_t)
      (try clear g_n)
      go_enter Tryz.func119, Tryz.ntmps119
      go_wp2
      go_ret
      exact ⟨_, rfl, .inl ⟨HR.out, rfl⟩, (below_box _).alloc (by simp) _⟩
    · have u_s : 0 < (ns.length : Int) + (kids.length : Int) := by omega
      have HR : Hid (¬ R4 false t ns kids) := fun h => g_s (by unfold R4 at h; first | exact h | exact h.1 | exact h.2 | exact h.2.1 | exact h.2.2)
      clear g_s
      (try clear g_t)
      go_enter Tryz.func119, Tryz.ntmps119
      go_wp2
      go_ret
      exact ⟨_, rfl, .inr ⟨HR.out, rfl⟩, (below_box _).alloc (by simp) _⟩
  ·
    have HR : Hid (¬ R4 true t ns kids) := fun h => by unfold R4 at h; have := h.1; cases this
    go_enter Tryz.func119, Tryz.ntmps119
    go_wp2
    go_ret
    exact ⟨_, rfl, .inr ⟨HR.out, rfl⟩, (below_box _).alloc (by simp) _⟩

def R5 (f : Bool) (t : ByteArray) (ns : List ByteArray) (kids : List Js) : Prop := f = false ∧ t.size = 0 ∧ ns.length = 0
set_option maxRecDepth 100000 in
set_option maxHeartbeats 2000000 in
theorem valueOf5 (f : Bool) (t : ByteArray) (ns : List ByteArray) (kids : List Js) (A K : Option Addr) (ca kc : Nat) (w : World) (l2 : ns.length ≤ 1048576) (l4 : kids.length ≤ 1048576) :
    Calls Tryz.prog 119 #[.agg #[.int .i64 5, .bool f, .string t, .slice A ns.length ca, .slice K kids.length kc]] w (ExPost (.iface 149 (.slice K kids.length kc)) (R5 f t ns kids) w) := by
  cases f
  · have g_f : false = false := rfl
    by_cases g_t : t.size = 0
    · have u_t : t.toList.isEmpty = true := by rw [empty_iff]; simp [g_t]
      by_cases g_n : ns.length = 0
      ·
        obtain rfl := List.eq_nil_of_length_eq_zero g_n
        have HR : Hid (R5 false t [] kids) := ⟨rfl, g_t, rfl⟩
        (try clear g_t)
        (try clear g_n)
        go_enter Tryz.func119, Tryz.ntmps119
        go_wp2
        go_ret
        exact ⟨_, rfl, .inl ⟨HR.out, rfl⟩, (below_box _).alloc (by simp) _⟩
      · have u_n : 0 < ns.length := by omega
        have HR : Hid (¬ R5 false t ns kids) := fun h => g_n (by unfold R5 at h; first | exact h | exact h.1 | exact h.2 | exact h.2.1 | exact h.2.2)
        clear g_n
        (try clear g_t)
        go_enter Tryz.func119, Tryz.ntmps119
        go_wp2
        go_ret
        exact ⟨_, rfl, .inr ⟨HR.out, rfl⟩, (below_box _).alloc (by simp) _⟩
    · have u_t : t.toList.isEmpty = false := by rw [empty_iff]; simp [g_t]
      have HR : Hid (¬ R5 false t ns kids) := fun h => g_t (by unfold R5 at h; first | exact h | exact h.1 | exact h.2 | exact h.2.1 | exact h.2.2)
      clear g_t
      (try clear g_t)
      go_enter Tryz.func119, Tryz.ntmps119
      go_wp2
      go_ret
      exact ⟨_, rfl, .inr ⟨HR.out, rfl⟩, (below_box _).alloc (by simp) _⟩
  ·
    have HR : Hid (¬ R5 true t ns kids) := fun h => by unfold R5 at h; have := h.1; cases this
    go_enter Tryz.func119, Tryz.ntmps119
    go_wp2
    go_ret
    exact ⟨_, rfl, .inr ⟨HR.out, rfl⟩, (below_box _).alloc (by simp) _⟩

def R6 (f : Bool) (t : ByteArray) (ns : List ByteArray) (kids : List Js) : Prop := f = false ∧ t.size = 0
set_option maxRecDepth 100000 in
set_option maxHeartbeats 2000000 in
theorem valueOf6 (f : Bool) (t : ByteArray) (ns : List ByteArray) (kids : List Js) (A K : Option Addr) (ca kc : Nat) (w : World) (l2 : ns.length ≤ 1048576) (l4 : kids.length ≤ 1048576) :
    Calls Tryz.prog 119 #[.agg #[.int .i64 6, .bool f, .string t, .slice A ns.length ca, .slice K kids.length kc]] w (ExPost (.iface 151 (.agg #[.slice A ns.length ca, .slice K kids.length kc])) (R6 f t ns kids) w) := by
  cases f
  · have g_f : false = false := rfl
    by_cases g_t : t.size = 0
    · have u_t : t.toList.isEmpty = true := by rw [empty_iff]; simp [g_t]
      have HR : Hid (R6 false t ns kids) := ⟨g_f, g_t⟩
      (try clear g_s)
      (try clear g_t)
      (try clear g_n)
      go_enter Tryz.func119, Tryz.ntmps119
      go_wp2
      go_ret
      exact ⟨_, rfl, .inl ⟨HR.out, rfl⟩, (below_box _).alloc (by simp) _⟩
    · have u_t : t.toList.isEmpty = false := by rw [empty_iff]; simp [g_t]
      have HR : Hid (¬ R6 false t ns kids) := fun h => g_t (by unfold R6 at h; first | exact h | exact h.1 | exact h.2 | exact h.2.1 | exact h.2.2)
      clear g_t
      (try clear g_t)
      go_enter Tryz.func119, Tryz.ntmps119
      go_wp2
      go_ret
      exact ⟨_, rfl, .inr ⟨HR.out, rfl⟩, (below_box _).alloc (by simp) _⟩
  ·
    have HR : Hid (¬ R6 true t ns kids) := fun h => by unfold R6 at h; have := h.1; cases this
    go_enter Tryz.func119, Tryz.ntmps119
    go_wp2
    go_ret
    exact ⟨_, rfl, .inr ⟨HR.out, rfl⟩, (below_box _).alloc (by simp) _⟩

set_option maxRecDepth 100000 in
set_option maxHeartbeats 2000000 in
theorem valueOfN (k : Int) (f : Bool) (t : ByteArray) (ns : List ByteArray) (kids : List Js) (A K : Option Addr) (ca kc : Nat) (w : World) (l2 : ns.length ≤ 1048576) (l4 : kids.length ≤ 1048576) (hk : k ≠ 1 ∧ k ≠ 2 ∧ k ≠ 3 ∧ k ≠ 4 ∧ k ≠ 5 ∧ k ≠ 6) :
    Calls Tryz.prog 119 #[.agg #[.int .i64 k, .bool f, .string t, .slice A ns.length ca, .slice K kids.length kc]] w fun e w' => e = .returned .nilIface ∧ Below w.heap.size w w' := by
  obtain ⟨a1, a2, a3, a4, a5, a6⟩ := hk
  have b1 : (k == 1) = false := by simp [a1]
  have b2 : (k == 2) = false := by simp [a2]
  have b3 : (k == 3) = false := by simp [a3]
  have b4 : (k == 4) = false := by simp [a4]
  have b5 : (k == 5) = false := by simp [a5]
  have b6 : (k == 6) = false := by simp [a6]
  clear a1 a2 a3 a4 a5 a6
  cases f
  · by_cases g_t : t.size = 0
    · have u_t : t.toList.isEmpty = true := by rw [empty_iff]; simp [g_t]
      clear g_t
      by_cases g_s : ns.length + kids.length = 0
      · have u_s : (ns.length : Int) + (kids.length : Int) ≤ 0 := by omega
        clear g_s
        go_enter Tryz.func119, Tryz.ntmps119
        go_wp2
        go_ret
        exact ⟨rfl, (below_box _).alloc (by simp) _⟩
      · have u_s : 0 < (ns.length : Int) + (kids.length : Int) := by omega
        clear g_s
        go_enter Tryz.func119, Tryz.ntmps119
        go_wp2
        go_ret
        exact ⟨rfl, (below_box _).alloc (by simp) _⟩
    · have u_t : t.toList.isEmpty = false := by rw [empty_iff]; simp [g_t]
      clear g_t
      go_enter Tryz.func119, Tryz.ntmps119
      go_wp2
      go_ret
      exact ⟨rfl, (below_box _).alloc (by simp) _⟩
  · go_enter Tryz.func119, Tryz.ntmps119
    go_wp2
    go_ret
    exact ⟨rfl, (below_box _).alloc (by simp) _⟩

/-- The value itself, by its kind. -/
def valJ (k : Int) (f : Bool) (t : ByteArray) (A : Option Addr) (ln ca : Nat) (K : Option Addr) (lk kc : Nat) : Value :=
  if k = 1 then .iface 145 (.agg #[]) else if k = 2 then .iface 146 (.bool f) else if k = 3 then .iface 147 (.string t) else if k = 4 then .iface 148 (.string t)
  else if k = 5 then .iface 149 (.slice K lk kc) else .iface 151 (.agg #[.slice A ln ca, .slice K lk kc])
def KindP (k : Int) : Prop := k = 1 ∨ k = 2 ∨ k = 3 ∨ k = 4 ∨ k = 5 ∨ k = 6
theorem valueOf_any (k : Int) (f : Bool) (t : ByteArray) (ns : List ByteArray) (kids : List Js) (A K : Option Addr) (ca kc : Nat) (w : World) (l2 : ns.length ≤ 1048576) (l4 : kids.length ≤ 1048576) :
    Calls Tryz.prog 119 #[.agg #[.int .i64 k, .bool f, .string t, .slice A ns.length ca, .slice K kids.length kc]] w (ExPost (valJ k f t A ns.length ca K kids.length kc) (KindP k ∧ BareJ k f t ns kids) w) := by
  have tr : ∀ (v : Value) (R R' : Prop), (R ↔ R') → ∀ e w', ExPost v R w e w' → ExPost v R' w e w' := fun v R R' h e w' ⟨x, h1, h2, h3⟩ => ⟨x, h1, h2.imp (fun q => ⟨h.1 q.1, q.2⟩) (fun q => ⟨fun q' => q.1 (h.2 q'), q.2⟩), h3⟩
  by_cases h1 : k = 1
  · subst h1; exact (valueOf1 f t ns kids A K ca kc w l2 l4).mono (tr _ _ _ (by unfold R1 KindP BareJ; cases f <;> grind))
  by_cases h2 : k = 2
  · subst h2; exact (valueOf2 f t ns kids A K ca kc w l2 l4).mono (tr _ _ _ (by unfold R2 KindP BareJ; cases f <;> grind))
  by_cases h3 : k = 3
  · subst h3; exact (valueOf3 f t ns kids A K ca kc w l2 l4).mono (tr _ _ _ (by unfold R3 KindP BareJ; cases f <;> grind))
  by_cases h4 : k = 4
  · subst h4; exact (valueOf4 f t ns kids A K ca kc w l2 l4).mono (tr _ _ _ (by unfold R4 KindP BareJ; cases f <;> grind))
  by_cases h5 : k = 5
  · subst h5; exact (valueOf5 f t ns kids A K ca kc w l2 l4).mono (tr _ _ _ (by unfold R5 KindP BareJ; cases f <;> grind))
  by_cases h6 : k = 6
  · subst h6; exact (valueOf6 f t ns kids A K ca kc w l2 l4).mono (tr _ _ _ (by unfold R6 KindP BareJ; cases f <;> grind))
  exact (valueOfN k f t ns kids A K ca kc w l2 l4 ⟨h1, h2, h3, h4, h5, h6⟩).mono fun _ _ ⟨h, hb⟩ => ⟨_, h, .inr ⟨fun q => by unfold KindP at q; omega, rfl⟩, hb⟩

end Go.Proofs.YtkhcappjhefkjaaGreatDoor

