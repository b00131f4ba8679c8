/- Items in order, and items that are in form: l11Less, l11Head, cmp.Compare, cmp.Or, compareItems, isItem. -/
import Derived.Test.YtafldjbmheopjaaE3
import Derived.Test.YtafldjbmheopjaaC6
import Derived.Test.YtafldjbmheopjaaM2
namespace Go.Proofs.Ytafldjbmheopjaa
open Go.RowKit
set_option linter.unusedVariables false

/-- Whether an item stands ahead of another one. -/
def lessB (a b : Sy) : Bool := if a.head = b.head then decide (a.low < b.low) || (decide (a.low = b.low) && decide (a.high < b.high)) else decide (a.head < b.head)

set_option maxRecDepth 100000 in
set_option maxHeartbeats 1000000 in
theorem less_any (a b : Sy) (w : World) :
    Calls Try.prog 39 #[.agg #[.int .i64 a.head, .int .i64 a.low, .int .i64 a.high], .agg #[.int .i64 b.head, .int .i64 b.low, .int .i64 b.high]] w fun e w' => e = .returned (.bool (lessB a b)) ∧ Below w.heap.size w w' := by
  have hbb : ∀ o1 o2, Below w.heap.size w ((w.alloc o1).alloc o2) := fun o1 o2 => (below_box _).alloc (by simp) _
  by_cases h1 : a.head = b.head
  · have h1' : (a.head != b.head) = false := by simp [h1]
    by_cases h2 : a.low < b.low
    · have E : Hid (lessB a b = true) := by show _ = _; unfold lessB; rw [if_pos h1]; simp [h2]
      have d2 : decide (a.low < b.low) = true := decide_eq_true h2
      go_enter Try.func39, Try.ntmps39
      go_wp2
      go_ret
      exact ⟨ret_bool E.out.symm, (below_box _).alloc (by simp) _⟩
    · have d2 : decide (a.low < b.low) = false := decide_eq_false h2
      by_cases h3 : a.low = b.low
      · have E : Hid (lessB a b = decide (a.high < b.high)) := by show _ = _; unfold lessB; rw [if_pos h1]; simp [h2, h3]
        have d3 : (a.low == b.low) = true := by simp [h3]
        go_enter Try.func39, Try.ntmps39
        go_wp2
        go_ret
        exact ⟨ret_bool E.out.symm, (below_box _).alloc (by simp) _⟩
      · have E : Hid (lessB a b = false) := by show _ = _; unfold lessB; rw [if_pos h1]; simp [h2, h3]
        have d3 : (a.low == b.low) = false := by simp [h3]
        go_enter Try.func39, Try.ntmps39
        go_wp2
        go_ret
        exact ⟨ret_bool E.out.symm, (below_box _).alloc (by simp) _⟩
  · have h1' : (a.head != b.head) = true := by simp [h1]
    have E : Hid (lessB a b = decide (a.head < b.head)) := by show _ = _; unfold lessB; rw [if_neg h1]
    go_enter Try.func39, Try.ntmps39
    go_wp2
    go_ret
    exact ⟨ret_bool E.out.symm, (below_box _).alloc (by simp) _⟩

/-- The head that an item of a production waits for; -2 if it is done. -/
def waitB (p : Pd) (d : Nat) : Int := match p.body[d]? with | some s => s.head | none => -2

set_option maxRecDepth 100000 in
set_option maxHeartbeats 1000000 in
theorem head_any (hd : Int) (ps : List Pd) (a : Option Addr) (c : Nat) (i d : Nat) (f : Int) (w : World) (hr : Pds w a ps) (hm : ps.length ≤ 1048576) (hs : Small ps) (hi : i < ps.length) (hd' : d ≤ ps[i].body.length) :
    Calls Try.prog 25 #[.agg #[.int .i64 hd, .slice a ps.length c], .agg #[.int .i64 (i : Int), .int .i64 (d : Int), .int .i64 f]] w fun e w' => e = .returned (.int .i64 (waitB ps[i] d)) ∧ Below w.heap.size w w' := by
  have hsm := hs _ (List.getElem_mem hi)
  obtain ⟨b, off, rfl, K, kc, hn⟩ := (hr.keep (w' := (w.alloc (.cells #[.int .i64 hd, .slice a ps.length c] 33)).alloc (.cells #[.int .i64 (i : Int), .int .i64 (d : Int), .int .i64 f] 54)) ((below_box _).alloc (by simp) _)).at_ hi
  have c0 := hn.c0
  have c1 := hn.c1
  have hi' : (i : Int) < (ps.length : Int) := by omega
  have hK := Lib.hid hn.k
  clear hn hr hs
  generalize hp : ps[i] = p at *
  clear hp
  by_cases h : d = p.body.length
  · have E : Hid (waitB p d = -2) := by show _ = _; unfold waitB; rw [List.getElem?_eq_none (by omega)]
    clear hK
    subst h
    go_enter Try.func25, Try.ntmps25
    go_wp2
    go_quiet (fail)
    go_wp2
    go_ret
    exact ⟨ret_int E.out.symm, below_drewN ((below_box _).alloc (by simp) _) _⟩
  · have hdl : d < p.body.length := by omega
    have E : Hid (waitB p d = p.body[d].head) := by show _ = _; unfold waitB; rw [List.getElem?_eq_getElem hdl]
    have h' : ((d : Int) == (p.body.length : Int)) = false := by simp; omega
    obtain ⟨kb, ko, rfl, hsy⟩ := hK.out.at_ hdl
    have s0 := hsy.c0
    have hdl' : (d : Int) < (p.body.length : Int) := by omega
    clear hsy hK
    generalize p.body[d] = s at *
    go_enter Try.func25, Try.ntmps25
    go_wp2
    go_quiet (fail)
    go_wp2
    go_quiet (fail)
    go_wp2
    go_ret
    exact ⟨ret_int E.out.symm, below_drewN (below_drewN ((below_box _).alloc (by simp) _) _) _⟩

/-- What a comparison of two numbers gives. -/
def cmpI (x y : Int) : Int := if x < y then -1 else if y < x then 1 else 0

set_option maxHeartbeats 400000 in
theorem nan_any (x : Int) (w : World) : Calls Try.prog 88 #[.int .i64 x] w fun e w' => e = .returned (.bool false) ∧ w = w' := by
  have h : (x != x) = false := by simp
  go_enter Try.func88, Try.ntmps88
  go_wp2
  go_ret
  exact ⟨rfl, rfl⟩

set_option maxHeartbeats 400000 in
theorem cmp_any (x y : Int) (w : World) : Calls Try.prog 78 #[.int .i64 x, .int .i64 y] w fun e w' => e = .returned (.int .i64 (cmpI x y)) ∧ w = w' := by
  by_cases h1 : x < y
  · have E : Hid (cmpI x y = -1) := if_pos h1
    go_enter Try.func78, Try.ntmps78
    go_wp2_with (go_at_call 88; refine (nan_any _ _).mono ?_; rintro e w' ⟨rfl, rfl⟩)
    go_ret
    exact ⟨ret_int E.out.symm, rfl⟩
  · by_cases h2 : y < x
    · have E : Hid (cmpI x y = 1) := by show _ = _; unfold cmpI; rw [if_neg h1, if_pos h2]
      go_enter Try.func78, Try.ntmps78
      go_wp2_with (go_at_call 88; refine (nan_any _ _).mono ?_; rintro e w' ⟨rfl, rfl⟩)
      go_ret
      exact ⟨ret_int E.out.symm, rfl⟩
    · have E : Hid (cmpI x y = 0) := by show _ = _; unfold cmpI; rw [if_neg h1, if_neg h2]
      go_enter Try.func78, Try.ntmps78
      go_wp2_with (go_at_call 88; refine (nan_any _ _).mono ?_; rintro e w' ⟨rfl, rfl⟩)
      go_ret
      exact ⟨ret_int E.out.symm, rfl⟩

/-- The first number that is not nought. -/
def orI : List Int → Int
  | [] => 0
  | x :: r => if x = 0 then orI r else x
theorem orI_drop (zs : List Int) (k : Nat) (h : k < zs.length) : orI (zs.drop k) = if zs[k] = 0 then orI (zs.drop (k + 1)) else zs[k] := by
  rw [List.drop_eq_getElem_cons h]; rfl

set_option maxRecDepth 100000 in
set_option maxHeartbeats 400000 in
theorem or_any (a : Option Addr) (c : Nat) (zs : List Int) (w : World) (hr : Row w a (ints zs)) (hm : zs.length ≤ 1048576) : Calls Try.prog 77 #[.slice a zs.length c] w fun e w' => e = .returned (.int .i64 (orI zs)) ∧ w = w' := by
  have HR := Lib.hid hr
  clear hr
  go_enter Try.func77, Try.ntmps77
  go_wp2
  go_loopw [8] (fun i wr => ∃ k : Nat, k ≤ zs.length ∧ i = .int .i64 k ∧ Hid (orI zs = orI (zs.drop k)) ∧ w = wr) (fun i _ => zs.length - (intOf i).toNat)
  case atStart => exact ⟨0, Nat.zero_le _, rfl, Lib.hid (by simp), rfl⟩
  case round =>
    obtain ⟨k, hk, rfl, HK, rfl⟩ := hrel
    by_cases hlt : k < zs.length
    · obtain ⟨b, off, rfl, c0⟩ := HR.out.int hlt
      have hlt' : (k : Int) < (zs.length : Int) := by omega
      have E := Lib.hid (orI_drop zs k hlt)
      generalize zs[k] = z at *
      by_cases hz : z = 0
      · subst hz
        have E2 : Hid (orI zs = orI (zs.drop (k + 1))) := HK.out.trans (E.out.trans (if_pos rfl))
        go_wp2
        go_roundw
        case rel => exact ⟨k + 1, by omega, by go_num, E2, by first | rfl | trivial⟩
        case measure => simp [intOf]; omega
      · have E2 : Hid (orI zs = z) := HK.out.trans (E.out.trans (if_neg hz))
        have hz' : (z != 0) = true := by simp [hz]
        go_wp2
        go_ret
        exact ⟨ret_int E2.out.symm, rfl⟩
    · have hlt' : ¬ (k : Int) < (zs.length : Int) := by omega
      have E2 : Hid (orI zs = 0) := HK.out.trans (by rw [List.drop_eq_nil_of_le (by omega)]; rfl)
      go_wp2
      go_ret
      exact ⟨ret_int E2.out.symm, rfl⟩

/-- What a comparison of two items gives. -/
def cmpB (a b : Sy) : Int := orI [cmpI a.head b.head, cmpI a.low b.low, cmpI a.high b.high]
theorem cmpB_less (a b : Sy) : decide (cmpB a b ≥ 0) = !lessB a b := by
  unfold cmpB lessB orI orI orI orI cmpI
  by_cases h1 : a.head < b.head
  · simp [h1]; omega
  · by_cases h2 : b.head < a.head
    · have : a.head ≠ b.head := by omega
      simp [h1, h2, this]
    · have : a.head = b.head := by omega
      simp only [this, Int.lt_irrefl, if_false, if_true]
      by_cases h3 : a.low < b.low
      · simp [h3]
      · by_cases h4 : b.low < a.low
        · have : a.low ≠ b.low := by omega
          simp [h3, h4, this]
        · have : a.low = b.low := by omega
          simp only [this, Int.lt_irrefl, if_false, if_true]
          by_cases h5 : a.high < b.high
          · simp [h5]
          · by_cases h6 : b.high < a.high
            · simp [h5, h6]
            · simp [h5, h6]

end Go.Proofs.Ytafldjbmheopjaa
