/- The least length of a body, by those of heads: spec.l3Body and impl.leastSum. -/
import Derived.Test.YtafldjbmheopjaaK1
namespace Go.Proofs.Ytafldjbmheopjaa
open Go.RowKit
set_option linter.unusedVariables false

theorem at_row {w : World} {A : Option Addr} {L : List Int} {h : Int} (hr : Row w A (ints L)) (h0 : 0 ≤ h) (h1 : h < L.length) : ∃ b off, A = some ⟨b, off, none⟩ ∧ w.cell? ⟨b, off + h.toNat, none⟩ = some (.int .i64 (at_ L h)) := by
  obtain ⟨b, off, e, hc⟩ := hr.int (k := h.toNat) (by omega)
  refine ⟨b, off, e, ?_⟩
  rw [hc]
  unfold at_
  rw [List.getD_eq_getElem?_getD, List.getElem?_eq_getElem (by omega)]; rfl

/-- What a body may have. -/
def BodyIn (n : Nat) (ss : List Sy) : Prop := ss.length ≤ 160 ∧ ∀ s ∈ ss, s.head = -1 ∨ (0 ≤ s.head ∧ s.head < n)

set_option maxRecDepth 100000 in
set_option maxHeartbeats 2000000 in
theorem l3Body_any (ss : List Sy) (L : List Int) (a : Option Addr) (c : Nat) (A : Option Addr) (d : Nat) (w : World) (hr : Syms w a ss) (hL : Row w A (ints L)) (hb : BodyIn L.length ss) (hg : Good L) (hm : L.length ≤ 200) :
    Calls Try.prog 41 #[.slice a ss.length c, .slice A L.length d] w fun e w' => e = .returned (.int .i64 (sumOf L ss)) ∧ Below w.heap.size w w' := by
  have HR := Lib.hid hr
  have HL := Lib.hid hL
  have HG := Lib.hid hg
  have hb160 := hb.1
  have HB := Lib.hid hb.2
  clear hr hL hg hb
  go_enter Try.func41, Try.ntmps41
  go_wp2
  go_loopw [5, 6] (fun n i wr => ∃ k : Nat, k ≤ ss.length ∧ i = .int .i64 k ∧ (∃ z : Int, n = .int .i64 z ∧ 0 ≤ z ∧ z ≤ 9999 + k ∧ Hid (sumGo L (ss.drop k) z = sumOf L ss)) ∧ Below w.heap.size w wr) (fun _ i _ => ss.length - (intOf i).toNat)
  case atStart => exact ⟨0, Nat.zero_le _, rfl, ⟨0, rfl, by omega, by omega, rfl⟩, Below.refl _ _⟩
  case round =>
    obtain ⟨k, hk, rfl, ⟨z, rfl, hz0, hz1, HZ⟩, hb⟩ := hrel
    by_cases hlt : k < ss.length
    · obtain ⟨b, off, rfl, hn⟩ := (HR.out.keep hb).at_ hlt
      have hlt' : (k : Int) < (ss.length : Int) := by omega
      have hin := HB.out _ (List.getElem_mem hlt)
      have HS := Lib.hid (sumGo_at L ss k hlt z)
      obtain ⟨c0, c1, c2⟩ := hn
      generalize ss[k] = s at *
      by_cases e : s.head = -1
      · have e' : s.head < 0 := by omega
        have R : Hid (sumGo L (ss.drop (k + 1)) (z + 1) = sumOf L ss) := by
          have h1 := HS.out
          rw [if_pos (by omega)] at h1
          show _ = _
          rw [← h1]; exact HZ.out
        have E := Lib.hid e
        clear e HS HZ hin
        go_wp2
        go_roundw
        case rel => exact ⟨k + 1, by omega, by go_num, ⟨_, rfl, by omega, by omega, R⟩, hb⟩
        case measure => simp [intOf]; omega
      · obtain ⟨x, hx⟩ : ∃ x : Nat, s.head = x := ⟨s.head.toNat, by omega⟩
        have hxl : x < L.length := by omega
        obtain ⟨lb, lo, rfl, lc⟩ := at_row (HL.out.keep hb) (h := s.head) (by omega) (by omega)
        have HGx := HG.out s.head
        have HS2 : Hid (at_ L s.head < 0 → sumOf L ss = -1) := fun h => by
          have h1 := HS.out
          rw [if_neg (by omega), if_pos h] at h1
          rw [← h1]; exact HZ.out.symm
        have HS3 : Hid (¬ at_ L s.head < 0 → sumGo L (ss.drop (k + 1)) (min (z + at_ L s.head) 9999) = sumOf L ss) := fun h => by
          have h1 := HS.out
          rw [if_neg (by omega), if_neg h] at h1
          rw [← h1]; exact HZ.out
        rw [hx] at lc HGx HS2 HS3
        simp only [Int.toNat_natCast] at lc
        rw [hx] at c0 e
        have hlb := cell_lt lc
        simp only at hlb
        have e' : ¬ (x : Int) < 0 := by omega
        have hxl' : (x : Int) < (L.length : Int) := by omega
        generalize at_ L (x : Int) = v at *
        have EN := Lib.hid e
        clear HS HZ hin e
        by_cases q : v < 0
        · have Q := Lib.hid (HS2.out q)
          go_wp2
          go_ret
          exact ⟨ret_int Q.out.symm, hb⟩
        · have Q := Lib.hid (HS3.out q)
          by_cases q2 : 9999 < z + v
          · have Q2 : Hid (min (z + v) 9999 = 9999) := by show _ = _; omega
            go_wp2
            go_roundw
            case rel => exact ⟨k + 1, by omega, by go_num, ⟨9999, rfl, by omega, by omega, by rw [← Q2.out]; exact Q⟩, hb⟩
            case measure => simp [intOf]; omega
          · have Q2 : Hid (min (z + v) 9999 = z + v) := by show _ = _; omega
            go_wp2
            go_roundw
            case rel => exact ⟨k + 1, by omega, by go_num, ⟨z + v, rfl, by omega, by omega, by rw [← Q2.out]; exact Q⟩, hb⟩
            case measure => simp [intOf]; omega
    · have hlt' : ¬ (k : Int) < (ss.length : Int) := by omega
      go_wp2
      go_ret
      have := HZ.out
      rw [List.drop_of_length_le (by omega)] at this
      exact ⟨ret_int this, hb⟩

set_option maxRecDepth 100000 in
set_option maxHeartbeats 2000000 in
theorem leastSum_any (ss : List Sy) (L : List Int) (a : Option Addr) (c : Nat) (A : Option Addr) (d : Nat) (w : World) (hr : Syms w a ss) (hL : Row w A (ints L)) (hb : BodyIn L.length ss) (hg : Good L) (hm : L.length ≤ 200) :
    Calls Try.prog 73 #[.slice a ss.length c, .slice A L.length d] w fun e w' => e = .returned (.int .i64 (sumOf L ss)) ∧ Below w.heap.size w w' := by
  have HR := Lib.hid hr
  have HL := Lib.hid hL
  have HG := Lib.hid hg
  have hb160 := hb.1
  have HB := Lib.hid hb.2
  clear hr hL hg hb
  go_enter Try.func73, Try.ntmps73
  go_wp2
  go_loopw [5, 10] (fun n i wr => ∃ k : Nat, k ≤ ss.length ∧ i = .int .i64 k ∧ (∃ z : Int, n = .int .i64 z ∧ 0 ≤ z ∧ z ≤ 9999 + k ∧ Hid (sumGo L (ss.drop k) z = sumOf L ss)) ∧ Below w.heap.size w wr) (fun _ i _ => ss.length - (intOf i).toNat)
  case atStart => exact ⟨0, Nat.zero_le _, rfl, ⟨0, rfl, by omega, by omega, rfl⟩, Below.refl _ _⟩
  case round =>
    obtain ⟨k, hk, rfl, ⟨z, rfl, hz0, hz1, HZ⟩, hb⟩ := hrel
    by_cases hlt : k < ss.length
    · obtain ⟨b, off, rfl, hn⟩ := (HR.out.keep hb).at_ hlt
      have hlt' : (k : Int) < (ss.length : Int) := by omega
      have hin := HB.out _ (List.getElem_mem hlt)
      have HS := Lib.hid (sumGo_at L ss k hlt z)
      obtain ⟨c0, c1, c2⟩ := hn
      generalize ss[k] = s at *
      by_cases e : s.head = -1
      · have e' : (s.head == -1) = true := by simp; omega
        have R : Hid (sumGo L (ss.drop (k + 1)) (z + 1) = sumOf L ss) := by
          have h1 := HS.out
          rw [if_pos (by omega)] at h1
          show _ = _
          rw [← h1]; exact HZ.out
        have E := Lib.hid e
        clear e HS HZ hin
        go_wp2
        go_roundw
        case rel => exact ⟨k + 1, by omega, by go_num, ⟨_, rfl, by omega, by omega, R⟩, (hb.alloc hb.size _)⟩
        case measure => simp [intOf]; omega
      · obtain ⟨x, hx⟩ : ∃ x : Nat, s.head = x := ⟨s.head.toNat, by omega⟩
        have hxl : x < L.length := by omega
        obtain ⟨lb, lo, rfl, lc⟩ := at_row (HL.out.keep hb) (h := s.head) (by omega) (by omega)
        have HGx := HG.out s.head
        have HS2 : Hid (at_ L s.head < 0 → sumOf L ss = -1) := fun h => by
          have h1 := HS.out
          rw [if_neg (by omega), if_pos h] at h1
          rw [← h1]; exact HZ.out.symm
        have HS3 : Hid (¬ at_ L s.head < 0 → sumGo L (ss.drop (k + 1)) (min (z + at_ L s.head) 9999) = sumOf L ss) := fun h => by
          have h1 := HS.out
          rw [if_neg (by omega), if_neg h] at h1
          rw [← h1]; exact HZ.out
        rw [hx] at lc HGx HS2 HS3
        simp only [Int.toNat_natCast] at lc
        rw [hx] at c0 e
        have hlb := cell_lt lc
        simp only at hlb
        have e' : ((x : Int) == -1) = false := by simp
        have hxl' : (x : Int) < (L.length : Int) := by omega
        generalize at_ L (x : Int) = v at *
        have EN := Lib.hid e
        clear HS HZ hin e
        by_cases q : v < 0
        · have Q := Lib.hid (HS2.out q)
          go_wp2
          go_ret
          exact ⟨ret_int Q.out.symm, (hb.alloc hb.size _)⟩
        · have Q := Lib.hid (HS3.out q)
          by_cases q2 : 9999 < z + v
          · have Q2 : Hid (min (z + v) 9999 = 9999) := by show _ = _; omega
            go_wp2
            go_roundw
            case rel => exact ⟨k + 1, by omega, by go_num, ⟨9999, rfl, by omega, by omega, by rw [← Q2.out]; exact Q⟩, (hb.alloc hb.size _)⟩
            case measure => simp [intOf]; omega
          · have Q2 : Hid (min (z + v) 9999 = z + v) := by show _ = _; omega
            go_wp2
            go_roundw
            case rel => exact ⟨k + 1, by omega, by go_num, ⟨z + v, rfl, by omega, by omega, by rw [← Q2.out]; exact Q⟩, (hb.alloc hb.size _)⟩
            case measure => simp [intOf]; omega
    · have hlt' : ¬ (k : Int) < (ss.length : Int) := by omega
      go_wp2
      go_ret
      have := HZ.out
      rw [List.drop_of_length_le (by omega)] at this
      exact ⟨ret_int this, hb⟩

end Go.Proofs.Ytafldjbmheopjaa
