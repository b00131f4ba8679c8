/- What l1Fits, HasPrefix, l1Plain, isPlain and longestPiece do. -/
import Derived.Test.YtcanhkngikeeiaaW4
namespace Go.Proofs.Ytcanhkngikeeiaa
open Go.RowKit
set_option linter.unusedVariables false

/-- Whether a text begins with a piece. -/
def fitsB (text p : ByteArray) : Bool := decide (p.size ≤ text.size) && ((text.extract 0 p.size).toList == p.toList)

set_option maxHeartbeats 400000 in
theorem fits_any (text p : ByteArray) (w : World) (ht : text.size ≤ maxLen) (hp : p.size ≤ maxLen) :
    Calls Try.prog 60 #[.string text, .string p] w fun e w' => e = .returned (.bool (fitsB text p)) ∧ w = w' := by
  unfold maxLen at ht hp
  by_cases h : p.size ≤ text.size
  · go_enter Try.func60, Try.ntmps60
    go_wp2
    go_ret
    exact ⟨ret_bool (by simp [fitsB, h]), rfl⟩
  · go_enter Try.func60, Try.ntmps60
    go_wp2
    go_ret
    exact ⟨ret_bool (by simp [fitsB, h]), rfl⟩

set_option maxHeartbeats 400000 in
theorem slite_any (text p : ByteArray) (w : World) (ht : text.size ≤ maxLen) (hp : p.size ≤ maxLen) :
    Calls Try.prog 89 #[.string text, .string p] w fun e w' => e = .returned (.bool (fitsB text p)) ∧ w = w' := by
  unfold maxLen at ht hp
  by_cases h : p.size ≤ text.size
  · go_enter Try.func89, Try.ntmps89
    go_wp2
    go_ret
    exact ⟨ret_bool (by simp [fitsB, h]), rfl⟩
  · go_enter Try.func89, Try.ntmps89
    go_wp2
    go_ret
    exact ⟨ret_bool (by simp [fitsB, h]), rfl⟩

set_option maxHeartbeats 400000 in
theorem prefix_any (text p : ByteArray) (w : World) (ht : text.size ≤ maxLen) (hp : p.size ≤ maxLen) :
    Calls Try.prog 79 #[.string text, .string p] w fun e w' => e = .returned (.bool (fitsB text p)) ∧ w = w' := by
  go_enter Try.func79, Try.ntmps79
  go_wp2_with (go_at_call 89; refine (slite_any _ _ _ ht hp).mono ?_; rintro e w' ⟨rfl, rfl⟩)
  go_ret
  exact ⟨rfl, rfl⟩

/-- The piece at a place. -/
def pieceAt (ss : List ByteArray) (i : Nat) : ByteArray := ss.getD i ByteArray.empty
theorem pieceAt_eq {ss : List ByteArray} {i : Nat} (h : i < ss.length) : pieceAt ss i = ss[i] := by simp [pieceAt, h]

/-- Whether the piece at a place has bytes, and is not the end. -/
def plainB (ss : List ByteArray) (en : Int) (i : Nat) : Bool := ((i : Int) != en) && decide (0 < (pieceAt ss i).size)

theorem Row.piece {w : World} {a : Option Addr} {ss : List ByteArray} (h : Row w a (strs ss)) {k : Nat} (hk : k < ss.length) :
    ∃ b off, a = some ⟨b, off, none⟩ ∧ w.cell? ⟨b, off + k, none⟩ = some (.string (pieceAt ss k)) := by
  obtain ⟨b, off, ha, hc⟩ := h.str hk
  exact ⟨b, off, ha, by rw [hc, pieceAt_eq hk]⟩

set_option maxHeartbeats 400000 in
theorem specPlain_any (a : Option Addr) (c : Nat) (ss : List ByteArray) (en : Int) (i : Nat) (w : World) (hr : Row w a (strs ss)) (hi : i < ss.length) (hm : ss.length ≤ 1048576) :
    Calls Try.prog 59 #[.agg #[.slice a ss.length c, .int .i64 en], .int .i64 i] w fun e w' => e = .returned (.bool (plainB ss en i)) ∧ Below w.heap.size w w' := by
  obtain ⟨b, off, rfl, hc⟩ := (hr.keep (below_box (.cells #[.slice a ss.length c, .int .i64 en] 25))).piece hi
  clear hr
  have h5 : (0 : Int) ≤ (ss.length : Int) - 1 := by omega
  have hin : inB i 0 ((ss.length : Int) - 1) = true := by unfold inB; simp; omega
  have hi' : (i : Int) < (ss.length : Int) := by omega
  by_cases he : (i : Int) = en
  · have he1 : ((i : Int) != en) = false := by simpa using he
    have HE := Lib.hid he1
    clear he
    go_enter Try.func59, Try.ntmps59
    go_wp2_with (go_at_call 52; refine (in_any _ _ _ _).mono ?_; rintro e w' ⟨rfl, rfl⟩)
    go_ret
    exact ⟨ret_bool (by unfold plainB; rw [HE.out]; rfl), below_box _⟩
  · have he1 : ((i : Int) != en) = true := by simpa using he
    go_enter Try.func59, Try.ntmps59
    go_wp2_with (go_at_call 52; refine (in_any _ _ _ _).mono ?_; rintro e w' ⟨rfl, rfl⟩)
    go_ret
    exact ⟨ret_bool (by unfold plainB; rw [he1]; simp), below_box _⟩

set_option maxHeartbeats 400000 in
theorem implPlain_any (a : Option Addr) (c : Nat) (ss : List ByteArray) (en : Int) (i : Nat) (w : World) (hr : Row w a (strs ss)) (hi : i < ss.length) (hm : ss.length ≤ 1048576) :
    Calls Try.prog 78 #[.agg #[.slice a ss.length c, .int .i64 en], .int .i64 i] w fun e w' => e = .returned (.bool (plainB ss en i)) ∧ Below w.heap.size w w' := by
  obtain ⟨b, off, rfl, hc⟩ := (hr.keep (below_box (.cells #[.slice a ss.length c, .int .i64 en] 25))).piece hi
  clear hr
  have hi' : (i : Int) < (ss.length : Int) := by omega
  by_cases he : (i : Int) = en
  · have he1 : ((i : Int) != en) = false := by simpa using he
    have HE := Lib.hid he1
    clear he
    go_enter Try.func78, Try.ntmps78
    go_wp2
    go_ret
    exact ⟨ret_bool (by unfold plainB; rw [HE.out]; rfl), below_box _⟩
  · have he1 : ((i : Int) != en) = true := by simpa using he
    go_enter Try.func78, Try.ntmps78
    go_wp2
    go_ret
    exact ⟨ret_bool (by unfold plainB; rw [he1]; simp), below_box _⟩

/-- Of the first k pieces the first of the longest that is plain and fits, or -1. -/
def bestTo (ss : List ByteArray) (en : Int) (text : ByteArray) : Nat → Int
  | 0 => -1
  | k + 1 => if plainB ss en k && fitsB text (pieceAt ss k) && (decide (bestTo ss en text k < 0) || decide ((pieceAt ss (bestTo ss en text k).toNat).size < (pieceAt ss k).size)) then k else bestTo ss en text k

theorem bestTo_range (ss : List ByteArray) (en : Int) (text : ByteArray) (k : Nat) : -1 ≤ bestTo ss en text k ∧ bestTo ss en text k < k := by
  induction k with
  | zero => simp [bestTo]
  | succ k ih => unfold bestTo; split <;> omega

/-- What is taken is plain, and fits. -/
theorem bestTo_good (ss : List ByteArray) (en : Int) (text : ByteArray) (k : Nat) (h : 0 ≤ bestTo ss en text k) :
    plainB ss en (bestTo ss en text k).toNat = true ∧ fitsB text (pieceAt ss (bestTo ss en text k).toNat) = true := by
  induction k with
  | zero => simp [bestTo] at h
  | succ k ih =>
    unfold bestTo at h ⊢
    split
    · rename_i hc
      simp only [Bool.and_eq_true] at hc
      exact ⟨by simpa using hc.1.1, by simpa using hc.1.2⟩
    · rename_i hc
      rw [if_neg hc] at h
      exact ih h

/-- How long the best one is, 0 if there is none. -/
def bestLen (ss : List ByteArray) (en : Int) (text : ByteArray) (k : Nat) : Nat := if bestTo ss en text k < 0 then 0 else (pieceAt ss (bestTo ss en text k).toNat).size

theorem bestTo_yes {ss : List ByteArray} {en : Int} {text : ByteArray} {k : Nat} (h1 : plainB ss en k = true) (h2 : fitsB text (pieceAt ss k) = true) (h3 : bestLen ss en text k < (pieceAt ss k).size) :
    bestTo ss en text (k + 1) = k ∧ bestLen ss en text (k + 1) = (pieceAt ss k).size := by
  have : bestTo ss en text (k + 1) = k := by
    show (if _ then _ else _) = _
    rw [if_pos]
    simp only [h1, h2, Bool.true_and, Bool.or_eq_true, decide_eq_true_iff]
    unfold bestLen at h3
    split at h3
    · left; assumption
    · right; assumption
  refine ⟨this, ?_⟩
  unfold bestLen
  rw [this, if_neg (by omega)]
  simp
theorem bestTo_no {ss : List ByteArray} {en : Int} {text : ByteArray} {k : Nat} (h : plainB ss en k = false ∨ fitsB text (pieceAt ss k) = false ∨ ¬ bestLen ss en text k < (pieceAt ss k).size) :
    bestTo ss en text (k + 1) = bestTo ss en text k ∧ bestLen ss en text (k + 1) = bestLen ss en text k := by
  have : bestTo ss en text (k + 1) = bestTo ss en text k := by
    show (if _ then _ else _) = _
    rw [if_neg]
    simp only [Bool.and_eq_true, Bool.or_eq_true, decide_eq_true_iff]
    rintro ⟨⟨h1, h2⟩, h3⟩
    rcases h with h | h | h
    · rw [h] at h1; cases h1
    · rw [h] at h2; cases h2
    · unfold plainB at h1
      simp only [Bool.and_eq_true, decide_eq_true_iff] at h1
      unfold bestLen at h
      split at h
      · omega
      · rename_i hn
        rcases h3 with h3 | h3
        · exact hn h3
        · exact h h3
  exact ⟨this, by unfold bestLen; rw [this]⟩

end Go.Proofs.Ytcanhkngikeeiaa
