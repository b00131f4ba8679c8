/- Stable sorting: two stretches of a row are exchanged, a row is turned. -/
import Derived.Test.YtcanhkngikeeiaaQ2
import Derived.Test.YtcanhkngikeeiaaBase
import Derived.Shelf.SlSortCmp.KitK
import Derived.Sort.WalkB2
import Derived.Sort.WalkB12
import Derived.Deep.LoopGhost
namespace Go.Proofs.Ytcanhkngikeeiaa
open Go.Shelf Go.RowKit Go.Lib Go.Sort
set_option linter.unusedVariables false

/-- A piece in memory: two cells. -/
def enc (x : PP) : List Value := [.string x.1, .int .i64 x.2]
theorem mixedT : Try.prog.follows .mixedOrders = true := by kernel_rfl
theorem agg105 : ∀ w, (isAgg 105).run Try.prog w = .ok true w := fun w => by kernel_rfl
theorem size105 : ∀ w, (Go.sizeOf 105).run Try.prog w = .ok 2 w := fun w => by kernel_rfl

set_option maxHeartbeats 4000000 in
set_option maxRecDepth 1000000 in
theorem swapRange_any (fv : Value) (k : Nat) (hk2 : k = 2) (blk off cap a b n : Nat) (d0 d : Array PP) (w0 w : World)
    (R : RowK enc k w0 blk off d0) (hs : d0.size = d.size) (S : SWK enc k w0 blk off d w) (hab : a + n ≤ b) (hb : b + n ≤ d.size) (hsz : d.size < 4611686018427387904) :
    Calls Try.prog 96 #[.slice (some ⟨blk, off, none⟩) d.size cap, .int .i64 a, .int .i64 b, .int .i64 n, fv] w fun e w' => e = .returned (.tuple #[]) ∧ ∃ d', Swr a b n d d' ∧ (∀ lo hi, lo ≤ a → b + n ≤ hi → hi ≤ d.size → PermIn lo hi d d') ∧ SWK enc k w0 blk off d' w' := by
  have mixed := mixedT
  have aE := agg105
  have zE : ∀ w, (Go.sizeOf 105).run Try.prog w = .ok k w := fun w => by rw [hk2]; exact size105 w
  clear hk2
  have S0 : Aside (SWK enc k w0 blk off d w) := S
  clear S
  go_enter Try.func96, Try.ntmps96
  go_wp2
  go_loopg [10] n (fun kx s10 wr => ∃ (i : Nat) (dk : Array PP), s10 = .int .i64 i ∧ i ≤ n ∧ n - i ≤ kx ∧ Aside (Swr a b i d dk ∧ (∀ lo hi, lo ≤ a → b + n ≤ hi → hi ≤ d.size → PermIn lo hi d dk) ∧ SWK enc k w0 blk off dk wr))
  case atStart => exact ⟨0, d, rfl, Nat.zero_le _, by omega, ⟨Swr.zero _ _ _, fun _ _ _ _ _ => permIn_refl _ _ _, S0.out⟩⟩
  case round =>
    clear S0
    obtain ⟨i, dk, rfl, hin, hkx, S1⟩ := hrel
    have hds : dk.size = d.size := S1.out.1.1
    by_cases hlt : i < n
    · have hlt' : (i : Int) < (n : Int) := by omega
      have ea : ((a : Int) + (i : Int)).toNat = a + i := by omega
      have pa : (0 : Int) ≤ (a : Int) + (i : Int) := by omega
      have ba : (a : Int) + (i : Int) < (d.size : Int) := by omega
      have ra : IntKind.i64.wrap ((a : Int) + (i : Int)) = (a : Int) + (i : Int) := by rw [IntKind.wrap_i64]; omega
      have ec : ((b : Int) + (i : Int)).toNat = b + i := by omega
      have pc : (0 : Int) ≤ (b : Int) + (i : Int) := by omega
      have bc : (b : Int) + (i : Int) < (d.size : Int) := by omega
      have rc : IntKind.i64.wrap ((b : Int) + (i : Int)) = (b : Int) + (i : Int) := by rw [IntKind.wrap_i64]; omega
      have S2 : Aside (SWK enc k w0 blk off (swp dk (a + i) (b + i)) ((wr.drew.setCells blk (off + (a + i) * k) (enc dk[b + i]!)).setCells blk (off + (b + i) * k) (enc dk[a + i]!))) := S1.out.2.2.swapped R (a + i) (b + i) (by omega) (by omega)
      have la := S1.out.2.2.ld1 R (by omega) Try.prog (a + i) (by omega)
      have lb := S1.out.2.2.ld1 R (by omega) Try.prog (b + i) (by omega)
      have sa := S1.out.2.2.st1 R (by omega) Try.prog (a + i) (by omega) dk[b + i]!
      have sb := S1.out.2.2.st2 R (by omega) Try.prog (a + i) (b + i) (by omega) (by omega) dk[b + i]! dk[a + i]!
      have na : (enc dk[a + i]!).length = k := R.hk _
      have nb : (enc dk[b + i]!).length = k := R.hk _
      generalize enc dk[a + i]! = cI at S2 la sb na
      generalize enc dk[b + i]! = cJ at S2 lb sa sb nb
      have S3 : Aside (Swr a b i d dk ∧ (∀ lo hi, lo ≤ a → b + n ≤ hi → hi ≤ d.size → PermIn lo hi d dk)) := ⟨S1.out.1, S1.out.2.1⟩
      have HDS : Aside (dk.size = d.size) := hds
      clear S1 hds
      go_wp2_with fail
      go_big_region_o
      clear la lb sa sb
      generalize (wr.drew.setCells blk (off + (a + i) * k) cJ).setCells blk (off + (b + i) * k) cI = w2 at S2 ⊢
      go_wp2
      go_roundg (n - (i + 1))
      case measure => omega
      case rel =>
        have hds := HDS.out
        exact ⟨i + 1, swp dk (a + i) (b + i), by go_num, by omega, by omega, ⟨S3.out.1.step (by omega) (by omega), fun lo hi h1 h2 h3 => permIn_trans _ _ _ _ _ (S3.out.2 lo hi h1 h2 h3) (swp_permIn _ _ _ _ _ (by omega) (by omega) (by omega) (by omega) (by omega)), S2.out⟩⟩
    · have hlt' : ¬ (i : Int) < (n : Int) := by omega
      go_wp2
      go_end0
      obtain rfl : i = n := by omega
      exact ⟨rfl, dk, S1.out⟩

end Go.Proofs.Ytcanhkngikeeiaa
