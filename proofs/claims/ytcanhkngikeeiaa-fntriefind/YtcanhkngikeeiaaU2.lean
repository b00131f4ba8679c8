/- Stable sorting: a row is turned. -/
import Derived.Test.YtcanhkngikeeiaaU1
namespace Go.Proofs.Ytcanhkngikeeiaa
open Go.Shelf Go.RowKit Go.Lib Go.Sort
set_option linter.unusedVariables false

/-- What a step of the sort leaves. -/
def Turned (blk off k a m b : Nat) (d : Array PP) (w0 : World) (e : Ending) (w' : World) : Prop :=
  e = .returned (.tuple #[]) ∧ ∃ d', Rot a m b d d' ∧ (∀ lo hi, lo ≤ a → b ≤ hi → hi ≤ d.size → PermIn lo hi d d') ∧ SWK enc k w0 blk off d' w'

set_option maxHeartbeats 4000000 in
set_option maxRecDepth 1000000 in
theorem rotate_any (fv : Value) (k : Nat) (hk2 : k = 2) (blk off cap a m b : Nat) (d0 d : Array PP) (w0 w : World)
    (R : RowK enc k w0 blk off d0) (hs : d0.size = d.size) (S : SWK enc k w0 blk off d w) (ham : a < m) (hmb : m < b) (hb : b ≤ d.size) (hsz : d.size < 4611686018427387904) :
    Calls Try.prog 95 #[.slice (some ⟨blk, off, none⟩) d.size cap, .int .i64 a, .int .i64 m, .int .i64 b, fv] w (Turned blk off k a m b d w0) := by
  have HK := Lib.hid hk2
  have HS := Lib.hid hs
  have S0 : Aside (SWK enc k w0 blk off d w) := S
  clear S hk2 hs
  go_enter Try.func95, Try.ntmps95
  go_wp2
  go_loopg [10, 11] (b - a) (fun kx s10 s11 wr => ∃ (i j : Nat) (dk : Array PP), s10 = .int .i64 i ∧ s11 = .int .i64 j ∧ 1 ≤ i ∧ 1 ≤ j ∧ a + i ≤ m ∧ m + j ≤ b ∧ i + j ≤ kx ∧ Aside (dk.size = d.size ∧ (∀ d', Rot (m - i) m (m + j) dk d' → Rot a m b d d') ∧ (∀ lo hi, lo ≤ a → b ≤ hi → hi ≤ d.size → PermIn lo hi d dk) ∧ SWK enc k w0 blk off dk wr))
  case atStart => exact ⟨m - a, b - m, d, by go_num, by go_num, by omega, by omega, by omega, by omega, by omega, ⟨rfl, fun d' h => by
      have e1 : m - (m - a) = a := by omega
      have e2 : m + (b - m) = b := by omega
      rwa [e1, e2] at h, fun _ _ _ _ _ => permIn_refl _ _ _, S0.out⟩⟩
  case round =>
    clear S0
    obtain ⟨i, j, dk, rfl, rfl, hi1, hj1, hai, hjb, hkx, S1⟩ := hrel
    by_cases hij : i = j
    · obtain rfl := hij
      have hne : ((i : Int) != (i : Int)) = false := by simp
      have HC := Lib.hid (swapRange_any fv k HK.out blk off cap (m - i) m i d0 dk w0 wr R (by rw [HS.out, S1.out.1]) S1.out.2.2.2 (by omega) (by rw [S1.out.1]; omega) (by rw [S1.out.1]; exact hsz))
      have e1 : (m : Int) - (i : Int) = ((m - i : Nat) : Int) := by omega
      have HE := Lib.hid e1
      clear e1
      go_wp2_with fail
      rw [HE.out]
      have hc := HC.out
      rw [S1.out.1] at hc
      refine hc.mono ?_
      rintro e w2 ⟨rfl, d', h1, h2, h3⟩
      have HF := Lib.hid (And.intro h1 (And.intro h2 h3))
      clear h1 h2 h3 hc HC
      go_wp2
      go_end0
      obtain ⟨h1, h2, h3⟩ := HF.out
      obtain ⟨q1, q2, q3, q4⟩ := S1.out
      exact ⟨rfl, d', q2 _ (Rot.last h1 (by omega)), fun lo hi k1 k2 k3 => permIn_trans _ _ _ _ _ (q3 lo hi k1 k2 k3) (h2 lo hi (by omega) (by omega) k3), h3⟩
    · have hne : ((i : Int) != (j : Int)) = true := by simp; omega
      by_cases hlt : j < i
      · have hlt' : (j : Int) < (i : Int) := by omega
        have HC := Lib.hid (swapRange_any fv k HK.out blk off cap (m - i) m j d0 dk w0 wr R (by rw [HS.out, S1.out.1]) S1.out.2.2.2 (by omega) (by rw [S1.out.1]; omega) (by rw [S1.out.1]; exact hsz))
        have e1 : (m : Int) - (i : Int) = ((m - i : Nat) : Int) := by omega
        have HE := Lib.hid e1
        have HIJ := Lib.hid hij
        clear e1 hij
        go_wp2_with fail
        rw [HE.out]
        have hc := HC.out
        rw [S1.out.1] at hc
        refine hc.mono ?_
        rintro e w2 ⟨rfl, d', h1, h2, h3⟩
        have HF := Lib.hid (And.intro h1 (And.intro h2 h3))
        clear h1 h2 h3 hc HC
        go_wp2
        go_roundg (i - j + j)
        case measure => omega
        case rel =>
          obtain ⟨h1, h2, h3⟩ := HF.out
          obtain ⟨q1, q2, q3, q4⟩ := S1.out
          exact ⟨i - j, j, d', by go_num, rfl, by omega, hj1, by omega, hjb, by omega, ⟨h1.1.trans q1, fun d'' h => q2 _ (Rot.more (by omega) hlt h1 h), fun lo hi k1 k2 k3 => permIn_trans _ _ _ _ _ (q3 lo hi k1 k2 k3) (h2 lo hi (by omega) (by omega) k3), h3⟩⟩
      · have hlt' : ¬ (j : Int) < (i : Int) := by omega
        have HC := Lib.hid (swapRange_any fv k HK.out blk off cap (m - i) (m + j - i) i d0 dk w0 wr R (by rw [HS.out, S1.out.1]) S1.out.2.2.2 (by omega) (by rw [S1.out.1]; omega) (by rw [S1.out.1]; exact hsz))
        have e1 : (m : Int) - (i : Int) = ((m - i : Nat) : Int) := by omega
        have e2 : (m : Int) + (j : Int) - (i : Int) = ((m + j - i : Nat) : Int) := by omega
        have HE := Lib.hid (And.intro e1 e2)
        have HIJ := Lib.hid (show i < j by omega)
        clear e1 e2 hij
        go_wp2_with fail
        rw [HE.out.1, HE.out.2]
        have hc := HC.out
        rw [S1.out.1] at hc
        refine hc.mono ?_
        rintro e w2 ⟨rfl, d', h1, h2, h3⟩
        have HF := Lib.hid (And.intro h1 (And.intro h2 h3))
        clear h1 h2 h3 hc HC
        go_wp2
        have hij := HIJ.out
        go_roundg (i + (j - i))
        case measure => omega
        case rel =>
          obtain ⟨h1, h2, h3⟩ := HF.out
          obtain ⟨q1, q2, q3, q4⟩ := S1.out
          exact ⟨i, j - i, d', rfl, by go_num, hi1, by omega, hai, by omega, by omega, ⟨h1.1.trans q1, fun d'' h => q2 _ (Rot.less (by omega) hij h1 h), fun lo hi k1 k2 k3 => permIn_trans _ _ _ _ _ (q3 lo hi k1 k2 k3) (h2 lo hi (by omega) (by omega) k3), h3⟩⟩

end Go.Proofs.Ytcanhkngikeeiaa
