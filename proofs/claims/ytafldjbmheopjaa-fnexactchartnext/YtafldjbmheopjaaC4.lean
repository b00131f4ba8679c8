/- Whether productions are ok: the symbols. -/
import Derived.Test.YtafldjbmheopjaaC3
namespace Go.Proofs.Ytafldjbmheopjaa
open Go.RowKit
set_option linter.unusedVariables false

def inB (n lo hi : Int) : Bool := decide (lo ≤ n) && decide (n ≤ hi)

set_option maxHeartbeats 400000 in
theorem in_any (n lo hi : Int) (w : World) :
    Calls Try.prog 37 #[.int .i64 n, .int .i64 lo, .int .i64 hi] w fun e w' => e = .returned (.bool (inB n lo hi)) ∧ w = w' := by
  go_enter Try.func37, Try.ntmps37
  go_wp2
  · go_ret
    exact ⟨ret_bool (by unfold inB; simp [*]), rfl⟩
  · go_ret
    exact ⟨ret_bool (by unfold inB; simp; omega), rfl⟩

/-- Whether a symbol is in form. -/
def symOkB (hd : Int) (s : Sy) : Bool :=
  if s.head = -1 then decide (0 ≤ s.low) && decide (s.low ≤ s.high) && decide (s.high ≤ 255)
  else decide (0 ≤ s.head) && decide (s.head < hd) && decide (s.low = 0) && decide (s.high = 0)

set_option maxRecDepth 100000 in
set_option maxHeartbeats 1000000 in
theorem isSym_any (s : Sy) (hd : Int) (w : World) :
    Calls Try.prog 82 #[.agg #[.int .i64 s.head, .int .i64 s.low, .int .i64 s.high], .int .i64 hd] w fun e w' => e = .returned (.bool (symOkB hd s)) ∧ Below w.heap.size w w' := by
  by_cases h : s.head = -1
  · have h' : (s.head == -1) = true := by simp [h]
    have HH := Lib.hid h
    clear h
    go_enter Try.func82, Try.ntmps82
    go_wp2
    all_goals
      go_ret
      exact ⟨ret_bool (by unfold symOkB; rw [if_pos HH.out]; simp [*] <;> omega), below_box _⟩
  · have h' : (s.head == -1) = false := by simp [h]
    have HH := Lib.hid h
    clear h
    go_enter Try.func82, Try.ntmps82
    go_wp2
    all_goals
      go_ret
      exact ⟨ret_bool (by unfold symOkB; rw [if_neg HH.out]; by_cases q0 : s.low = 0 <;> by_cases q1 : s.high = 0 <;> simp [*] <;> omega), below_box _⟩

set_option maxRecDepth 100000 in
set_option maxHeartbeats 1000000 in
theorem l3Sym_any (s : Sy) (hd : Int) (a : Option Addr) (n c : Nat) (w : World) (h1 : 1 ≤ hd) (h2 : hd ≤ 200) :
    Calls Try.prog 38 #[.agg #[.int .i64 hd, .slice a n c], .agg #[.int .i64 s.head, .int .i64 s.low, .int .i64 s.high]] w fun e w' => e = .returned (.bool (symOkB hd s)) ∧ Below w.heap.size w w' := by
  by_cases h : s.head = -1
  · have h' : (s.head == -1) = true := by simp [h]
    have HH := Lib.hid h
    clear h
    cases q : inB s.low 0 255
    · have Q := Lib.hid q
      go_enter Try.func38, Try.ntmps38
      go_wp2_with (go_at_call 37; refine (in_any _ _ _ _).mono ?_; rintro e w' ⟨rfl, rfl⟩)
      go_ret
      exact ⟨ret_bool (by have Q' := Q.out; unfold inB at Q'; unfold symOkB; rw [if_pos HH.out]; simp at Q' ⊢; omega), (below_box _).alloc (by simp) _⟩
    · have Q := Lib.hid q
      go_enter Try.func38, Try.ntmps38
      go_wp2_with (go_at_call 37; refine (in_any _ _ _ _).mono ?_; rintro e w' ⟨rfl, rfl⟩)
      go_ret
      exact ⟨ret_bool (by have Q' := Q.out; unfold inB at Q' ⊢; unfold symOkB; rw [if_pos HH.out]; simp at Q' ⊢; rcases Q' with ⟨x, y⟩; simp [x]), (below_box _).alloc (by simp) _⟩
  · have h' : (s.head == -1) = false := by simp [h]
    have HH := Lib.hid h
    clear h
    cases q : inB s.head 0 (hd - 1)
    · have Q := Lib.hid q
      go_enter Try.func38, Try.ntmps38
      go_wp2_with (go_at_call 37; refine (in_any _ _ _ _).mono ?_; rintro e w' ⟨rfl, rfl⟩)
      go_ret
      exact ⟨ret_bool (by have Q' := Q.out; unfold inB at Q'; unfold symOkB; rw [if_neg HH.out]; simp at Q' ⊢; omega), (below_box _).alloc (by simp) _⟩
    · have Q := Lib.hid q
      go_enter Try.func38, Try.ntmps38
      go_wp2_with (go_at_call 37; refine (in_any _ _ _ _).mono ?_; rintro e w' ⟨rfl, rfl⟩)
      all_goals
        go_ret
        exact ⟨ret_bool (by have Q' := Q.out; unfold inB at Q'; unfold symOkB; rw [if_neg HH.out]; simp at Q'; by_cases q0 : s.low = 0 <;> by_cases q1 : s.high = 0 <;> simp [*] <;> omega), (below_box _).alloc (by simp) _⟩

set_option maxRecDepth 100000 in
set_option maxHeartbeats 1000000 in
theorem clos42 (s : Sy) (hd : Int) (D : Nat) (w : World) (hD : w.cell? ⟨D, 0, none⟩ = some (.int .i64 hd)) :
    Calls Try.prog 81 #[.agg #[.int .i64 s.head, .int .i64 s.low, .int .i64 s.high], .pointer (some ⟨D, 0, none⟩)] w fun e w' => e = .returned (.bool (!symOkB hd s)) ∧ Below w.heap.size w w' := by
  have hDl := cell_lt hD
  simp only at hDl
  go_enter Try.func81, Try.ntmps81
  go_wp2_with fail
  refine (isSym_any s hd _).mono ?_
  rintro e w2 ⟨rfl, hb2⟩
  go_wp2
  go_ret
  exact ⟨rfl, (below_box _).trans (hb2.mono (by simp))⟩

/-- The place of the first symbol that is not in form, or -1. -/
def FirstBad (hd : Int) (ss : List Sy) (r : Int) : Prop := (r = -1 ∧ ∀ s ∈ ss, symOkB hd s = true) ∨ (0 ≤ r ∧ ∃ s ∈ ss, symOkB hd s = false)

set_option maxRecDepth 100000 in
set_option maxHeartbeats 1000000 in
theorem idx41 (ss : List Sy) (hd : Int) (D : Nat) (a : Option Addr) (c : Nat) (w : World) (hD : w.cell? ⟨D, 0, none⟩ = some (.int .i64 hd)) (hr : Syms w a ss) (hm : ss.length ≤ 1048576) :
    Calls Try.prog 80 #[.slice a ss.length c, .func (.func 81) #[] #[.pointer (some ⟨D, 0, none⟩)]] w fun e w' => ∃ r : Int, e = .returned (.int .i64 r) ∧ FirstBad hd ss r ∧ Below w.heap.size w w' := by
  have HR := Lib.hid hr
  have HD := Lib.hid hD
  clear hr hD
  go_enter Try.func80, Try.ntmps80
  go_wp2
  go_loopw [9] (fun i wr => ∃ k : Nat, k ≤ ss.length ∧ i = .int .i64 k ∧ Hid (∀ j (h : j < ss.length), j < k → symOkB hd ss[j] = true) ∧ Below w.heap.size w wr) (fun i _ => ss.length - (intOf i).toNat)
  case atStart => exact ⟨0, Nat.zero_le _, rfl, fun j _ hj => by omega, Below.refl _ _⟩
  case round =>
    obtain ⟨k, hk, rfl, HK, hb⟩ := hrel
    by_cases hlt : k < ss.length
    · obtain ⟨b, off, rfl, hn⟩ := (HR.out.keep hb).at_ hlt
      have hlt' : (k : Int) < (ss.length : Int) := by omega
      obtain ⟨c0, c1, c2⟩ := hn
      go_wp2_with fail
      refine (clos42 ss[k] hd D _ (cell_alloc (cell_keep hb HD.out) _)).mono ?_
      rintro e w2 ⟨rfl, hb2⟩
      have hb' : Below w.heap.size w w2 := (hb.alloc hb.size _).trans (hb2.mono (by have := hb.size; simp; omega))
      clear hb2 c0 c1 c2 hb
      cases q : symOkB hd ss[k]
      · have Q := Lib.hid q
        go_wp2
        go_ret
        exact ⟨k, rfl, .inr ⟨by omega, ss[k], List.getElem_mem hlt, Q.out⟩, hb'⟩
      · have Q := Lib.hid q
        go_wp2
        go_roundw
        case rel => exact ⟨k + 1, by omega, by go_num, fun j h hj => by
          rcases Nat.lt_succ_iff_lt_or_eq.1 hj with h3 | h3
          · exact HK j h h3
          · subst h3; exact Q.out, hb'⟩
        case measure => simp [intOf]; omega
    · have hlt' : ¬ (k : Int) < (ss.length : Int) := by omega
      go_wp2
      go_ret
      refine ⟨-1, rfl, .inl ⟨rfl, fun s hs => ?_⟩, hb⟩
      obtain ⟨j, hj, rfl⟩ := List.getElem_of_mem hs
      exact HK j hj (by omega)

/-- Whether a body is in form. -/
def bodyOkB (hd : Int) (ss : List Sy) : Bool := decide (ss.length ≤ 160) && ss.all (symOkB hd)

theorem FirstBad.lt {hd : Int} {ss : List Sy} {r : Int} (h : FirstBad hd ss r) : decide (r < 0) = ss.all (symOkB hd) := by
  rcases h with ⟨rfl, h⟩ | ⟨h0, s, hs, h⟩
  · have : ss.all (symOkB hd) = true := List.all_eq_true.2 h
    rw [this]; rfl
  · have : ss.all (symOkB hd) = false := by
      rw [List.all_eq_false]; exact ⟨s, hs, by simp [h]⟩
    rw [this]; simp; omega

set_option maxRecDepth 100000 in
set_option maxHeartbeats 1000000 in
theorem isBody_any (ss : List Sy) (hd : Int) (a : Option Addr) (c : Nat) (w : World) (hr : Syms w a ss) (hm : ss.length ≤ 1048576) :
    Calls Try.prog 68 #[.slice a ss.length c, .int .i64 hd] w fun e w' => e = .returned (.bool (bodyOkB hd ss)) ∧ Below w.heap.size w w' := by
  have HR := Lib.hid hr
  clear hr
  by_cases h : ss.length ≤ 160
  · have h' : (ss.length : Int) ≤ 160 := by omega
    have HH := Lib.hid h
    go_enter Try.func68, Try.ntmps68
    go_wp2_with fail
    refine (idx41 ss hd w.heap.size a c _ (by simp) (HR.out.keep (below_box _)) hm).mono ?_
    rintro e w2 ⟨r, rfl, hf, hb2⟩
    go_wp2
    go_ret
    exact ⟨ret_bool (by rw [hf.lt]; unfold bodyOkB; simp [HH.out]), (below_box _).trans (hb2.mono (by simp))⟩
  · have h' : ¬ (ss.length : Int) ≤ 160 := by omega
    have HH := Lib.hid h
    go_enter Try.func68, Try.ntmps68
    go_wp2
    go_ret
    exact ⟨ret_bool (by unfold bodyOkB; simp [HH.out]), below_box _⟩

end Go.Proofs.Ytafldjbmheopjaa
