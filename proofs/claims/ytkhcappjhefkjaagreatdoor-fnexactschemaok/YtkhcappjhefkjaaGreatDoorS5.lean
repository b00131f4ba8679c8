/- The specification's l32Size. -/
import Derived.Test.YtkhcappjhefkjaaGreatDoorS4
namespace Go.Proofs.YtkhcappjhefkjaaGreatDoor
open Go.RowKit
set_option linter.unusedVariables false

/-- A schema that is neither too high nor too wide. -/
def GooP (d : Nat) (p : Sc) : Prop := p.ht ≤ d ∧ NarS p
def GooTo (d : Nat) (kids : List Sc) (j : Nat) : Prop := ∀ i (h : i < kids.length), i < j → GooP d kids[i]
theorem goo_mk {d : Nat} {k mn mx : Int} {ns : List ByteArray} {ms : List Bool} {kids : List Sc} : GooP (d + 1) (.mk k mn mx ns ms kids) ↔ kids.length ≤ 4 ∧ GooTo d kids kids.length := by
  unfold GooP GooTo
  rw [htS_mk, nars_iff, Nat.add_le_add_iff_right, htS_le]
  constructor
  · rintro ⟨h1, h2, h3⟩
    exact ⟨h2, fun i hi _ => ⟨h1 _ (List.getElem_mem hi), h3 _ (List.getElem_mem hi)⟩⟩
  · rintro ⟨h2, h3⟩
    refine ⟨fun p hp => ?_, h2, fun p hp => ?_⟩
    · obtain ⟨i, hi, rfl⟩ := List.getElem_of_mem hp; exact (h3 i hi hi).1
    · obtain ⟨i, hi, rfl⟩ := List.getElem_of_mem hp; exact (h3 i hi hi).2

def SiS (d : Nat) : Prop := ∀ (k mn mx : Int) (ns : List ByteArray) (ms : List Bool) (kids : List Sc) (A M K : Option Addr) (ca ma kc B0 : Nat) (w : World), Scs w B0 K kids → kids.length ≤ 1048576 → (∀ p ∈ kids, LimS 1048576 p) →
  Calls Tryz.prog 37 #[.agg #[.int .i64 k, .int .i64 mn, .int .i64 mx, .slice A ns.length ca, .slice M ms.length ma, .slice K kids.length kc], .int .i64 (d : Nat)] w (fun e w' => (∃ r : Nat, e = .returned (.int .i64 r) ∧ 1 ≤ r ∧ r ≤ 11 * 5 ^ d ∧ (GooP d (.mk k mn mx ns ms kids) → r = (Sc.mk k mn mx ns ms kids).nodes) ∧ (¬ GooP d (.mk k mn mx ns ms kids) → 11 ≤ r)) ∧ Below w.heap.size w w')

set_option maxRecDepth 100000 in
set_option maxHeartbeats 1000000 in
theorem sizeS0 : SiS 0 := by
  intro k mn mx ns ms kids A M K ca ma kc B0 w hk hm hl
  go_enter Tryz.func37, Tryz.ntmps37
  go_wp2
  go_ret
  exact ⟨⟨11, rfl, by omega, by omega, fun h => by have := h.1; rw [htS_mk] at this; omega, fun _ => Nat.le_refl _⟩, below_box _⟩

set_option maxRecDepth 100000 in
set_option maxHeartbeats 1000000 in
theorem sizeSS {d : Nat} (IH : SiS d) (hd : d ≤ 4) : SiS (d + 1) := by
  intro k mn mx ns ms kids A M K ca ma kc B0 w hk hm hl
  have hd1 : ¬ ((d : Int) + 1) < 1 := by omega
  have hbx : Below w.heap.size w (w.alloc (.cells #[.int .i64 k, .int .i64 mn, .int .i64 mx, .slice A ns.length ca, .slice M ms.length ma, .slice K kids.length kc] 31)) := below_box _
  have HP5 : Hid (11 * 5 ^ (d + 1) = 5 * (11 * 5 ^ d) ∧ 11 ≤ 11 * 5 ^ d ∧ 11 * 5 ^ d ≤ 6875) := by
    show _ ∧ _ ∧ _
    have h1 : 5 ^ d ≤ 5 ^ 4 := Nat.pow_le_pow_right (by omega) hd
    have h0 : 5 ^ 0 ≤ 5 ^ d := Nat.pow_le_pow_right (by omega) (Nat.zero_le d)
    rw [Nat.pow_succ]
    omega
  by_cases h4 : 4 < kids.length
  · have h4' : (4 : Int) < (kids.length : Int) := by omega
    go_enter Tryz.func37, Tryz.ntmps37
    go_wp2
    go_ret
    refine ⟨⟨11, rfl, by omega, by have := HP5.out; omega, fun h => ?_, fun _ => Nat.le_refl _⟩, hbx⟩
    have := (goo_mk.1 h).1
    omega
  have h4' : ¬ (4 : Int) < (kids.length : Int) := by omega
  have HK := Lib.hid (hk.keep hbx)
  have k4 : (w.alloc (.cells #[.int .i64 k, .int .i64 mn, .int .i64 mx, .slice A ns.length ca, .slice M ms.length ma, .slice K kids.length kc] 31)).cell? ⟨w.heap.size, 5, none⟩ = some (.slice K kids.length kc) := by simp
  have HI := Lib.hid IH
  have HL := Lib.hid hl
  clear hk IH hl
  have hk4 : kids.length ≤ 4 := by omega
  clear h4
  go_enter Tryz.func37, Tryz.ntmps37
  go_wp2
  generalize w.alloc (.cells #[.int .i64 k, .int .i64 mn, .int .i64 mx, .slice A ns.length ca, .slice M ms.length ma, .slice K kids.length kc] 31) = W0 at *
  have HK4 := Lib.hid k4
  have HBX := Lib.hid hbx
  clear k4 hbx
  go_loopw [5, 6] (fun q i wr => ∃ j z : Nat, j ≤ kids.length ∧ i = .int .i64 j ∧ q = .int .i64 z ∧ Hid (1 ≤ z ∧ z ≤ 1 + j * (11 * 5 ^ d) ∧ (GooTo d kids j → z = nodesS (kids.take j) + 1) ∧ (¬ GooTo d kids j → 11 ≤ z)) ∧ Below W0.heap.size W0 wr) (fun _ i _ => kids.length - (intOf i).toNat)
  case atStart => exact ⟨0, 1, Nat.zero_le _, rfl, rfl, ⟨by omega, by omega, fun _ => by simp [nodesS], fun h => absurd (fun i _ hi => by omega) h⟩, Below.refl _ _⟩
  case round =>
    obtain ⟨j, z, hj, rfl, rfl, HZ, hb⟩ := hrel
    have k4 := cell_keep hb HK4.out
    have kl := cell_lt k4
    simp only at kl
    have hz1 : z ≤ 30000 := by
      have h1 := HZ.out.2.1
      have h2 := HP5.out.2.2
      have h3 : j * (11 * 5 ^ d) ≤ 4 * 6875 := Nat.mul_le_mul (by omega) h2
      omega
    by_cases hlt : j < kids.length
    · have hlt' : (j : Int) < (kids.length : Int) := by omega
      obtain ⟨b, off, rfl, hp⟩ := (HK.out.keep hb).at_ hlt
      have hmem := List.getElem_mem hlt
      have hlim := HL.out _ hmem
      have HT := Lib.hid (nodesS_take hlt)
      have HG : Hid (GooTo d kids (j + 1) ↔ GooTo d kids j ∧ GooP d kids[j]) := ⟨fun h => ⟨fun i hi hij => h i hi (by omega), h j hlt (by omega)⟩, fun h i hi hij => by
        rcases Nat.lt_succ_iff_lt_or_eq.1 hij with h3 | h3
        · exact h.1 i hi h3
        · subst h3; exact h.2⟩
      clear hmem
      generalize kids[j] = p at *
      obtain ⟨pk, pmn, pmx, pns, pms, pkids⟩ := p
      obtain ⟨PA, PM, PK, pa, pm, pc, hc, hv⟩ := hp.open_
      obtain ⟨c0, c1, c2, c3, c4, c5, cle⟩ := hc
      cases hlim with
      | mk _ _ _ _ _ _ q1 q2 q3 q4 q5 q6 =>
      have HC := Lib.hid (HI.out pk pmn pmx pns pms pkids PA PM PK pa pm pc B0 wr hv.k q4 q5)
      clear hp hv q1 q2 q3 q4 q5 q6 cle
      go_wp2_with fail
      refine HC.out.mono ?_
      rintro e w2 ⟨⟨r, rfl, hr1, hr2, hr3, hr4⟩, hb2⟩
      have hb' : Below W0.heap.size W0 w2 := hb.trans (hb2.mono hb.size)
      have hr5 : r ≤ 6875 := by have := HP5.out.2.2; omega
      have HZ2 : Hid (1 ≤ z + r ∧ z + r ≤ 1 + (j + 1) * (11 * 5 ^ d) ∧ (GooTo d kids (j + 1) → z + r = nodesS (kids.take (j + 1)) + 1) ∧ (¬ GooTo d kids (j + 1) → 11 ≤ z + r)) := by
        obtain ⟨a1, a2, a3, a4⟩ := HZ.out
        refine ⟨by omega, by rw [Nat.add_mul]; omega, fun h => ?_, fun h => ?_⟩
        · obtain ⟨h1, h2⟩ := HG.out.1 h
          rw [HT.out]
          have := a3 h1
          have := hr3 h2
          omega
        · by_cases h1 : GooTo d kids j
          · have := hr4 (fun h2 => h (HG.out.2 ⟨h1, h2⟩))
            omega
          · have := a4 h1; omega
      have hw1 : IntKind.i64.wrap ((z : Int) + (r : Int)) = (z : Int) + (r : Int) := IntWalk.i64_in _ (by omega)
      clear hb hb2 HC c0 c1 c2 c3 c4 c5 k4 hr3 hr4 HZ HT HG
      go_wp2
      go_roundw
      case rel => exact ⟨j + 1, z + r, by omega, by go_num, by go_num, HZ2, hb'⟩
      case measure => simp [intOf]; omega
    · have hlt' : ¬ (j : Int) < (kids.length : Int) := by omega
      obtain rfl : j = kids.length := by omega
      go_wp2
      go_ret
      refine ⟨⟨z, rfl, HZ.out.1, ?_, fun h => ?_, fun h => ?_⟩, HBX.out.trans (hb.mono HBX.out.size)⟩
      · have h1 := HZ.out.2.1
        have h2 := HP5.out
        have h3 : kids.length * (11 * 5 ^ d) ≤ 4 * (11 * 5 ^ d) := Nat.mul_le_mul_right _ hk4
        omega
      · have := HZ.out.2.2.1 (goo_mk.1 h).2
        rw [List.take_length] at this
        rw [nodesS_mk]; exact this
      · exact HZ.out.2.2.2 (fun h2 => h (goo_mk.2 ⟨hk4, h2⟩))

theorem sizes_all : ∀ d, d ≤ 5 → SiS d
  | 0, _ => sizeS0
  | d + 1, h => sizeSS (sizes_all d (by omega)) (by omega)

end Go.Proofs.YtkhcappjhefkjaaGreatDoor
