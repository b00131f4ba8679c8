/- The specification of grammars, walked: l2Class. -/
import Derived.Test.YtkgiklmdpdakbaaP9
namespace Go.Proofs.Ytkgiklmdpdakbaa
open Go.RowKit
set_option linter.unusedVariables false

theorem in_lit (n lo hi : Int) (b : Bool) (w : World) (h : inB n lo hi = b) :
    Calls Try.prog 28 #[.int .i64 n, .int .i64 lo, .int .i64 hi] w fun e w' => e = .returned (.bool b) ∧ w = w' := by
  subst h; exact in_any n lo hi w
theorem quiet_left {P : Program} {f : FuncId} {args : Array Value} {w : World} {n : Nat} {v : Value}
    (h : Calls P f args (w.drewN n) fun e w' => e = .returned v ∧ w.drewN n = w') : Calls P f args (w.drewN n) fun e w'' => e = .returned v ∧ ∃ m, w'' = w.drewN m :=
  h.mono fun _ _ ⟨he, hm⟩ => ⟨he, n, hm.symm⟩

def gi (l : List Int) (i : Nat) : Int := l.getD i 0
theorem Row.gi {w : World} {A : Option Addr} {l : List Int} (h : Row w A (ints l)) {i : Nat} (hi : i < l.length) : ∃ b off, A = some ⟨b, off, none⟩ ∧ w.cell? ⟨b, off + i, none⟩ = some (.int .i64 (gi l i)) := by
  obtain ⟨b, off, e, hc⟩ := h.int hi
  refine ⟨b, off, e, ?_⟩
  rw [hc]
  unfold Ytkgiklmdpdakbaa.gi
  simp [hi]
/-- A range is in form, and does not touch the one ahead of it. -/
def ClassAt (lo hi : List Int) (u : Nat) : Prop := 0 ≤ gi lo u ∧ gi lo u ≤ 255 ∧ gi lo u ≤ gi hi u ∧ gi hi u ≤ 255 ∧ (0 < u → gi hi (u - 1) + 1 < gi lo u)
def ClassP (lo hi : List Int) : Prop := 1 ≤ lo.length ∧ lo.length = hi.length ∧ ∀ u, u < lo.length → ClassAt lo hi u

set_option maxRecDepth 100000 in
set_option maxHeartbeats 2000000 in
theorem l2Class_any (k : Int) (t : ByteArray) (lo hi : List Int) (nk : Nat) (mn mx : Int) (A B K : Option Addr) (ca cb kc : Nat) (w : World) (ha : Row w A (ints lo)) (hb0 : Row w B (ints hi)) (l2 : lo.length ≤ 1048576) (l3 : hi.length ≤ 1048576) :
    Calls Try.prog 79 #[.agg #[.int .i64 k, .string t, .slice A lo.length ca, .slice B hi.length cb, .slice K nk kc, .int .i64 mn, .int .i64 mx]] w (BoolPost (ClassP lo hi) w) := by
  have hbx : Below w.heap.size w (w.alloc (.cells #[.int .i64 k, .string t, .slice A lo.length ca, .slice B hi.length cb, .slice K nk kc, .int .i64 mn, .int .i64 mx] 88)) := below_box _
  have HA := Lib.hid (ha.keep hbx)
  have HB := Lib.hid (hb0.keep hbx)
  have k2 : (w.alloc (.cells #[.int .i64 k, .string t, .slice A lo.length ca, .slice B hi.length cb, .slice K nk kc, .int .i64 mn, .int .i64 mx] 88)).cell? ⟨w.heap.size, 2, none⟩ = some (.slice A lo.length ca) := by simp
  have k3 : (w.alloc (.cells #[.int .i64 k, .string t, .slice A lo.length ca, .slice B hi.length cb, .slice K nk kc, .int .i64 mn, .int .i64 mx] 88)).cell? ⟨w.heap.size, 3, none⟩ = some (.slice B hi.length cb) := by simp
  clear ha hb0
  by_cases g1 : lo.length < 1
  · have g1' : (lo.length : Int) < 1 := by omega
    have G := Lib.hid g1
    go_enter Try.func79, Try.ntmps79
    go_wp2
    go_ret
    exact ⟨false, rfl, iffF (fun h => by have := h.1; have := G.out; omega), hbx⟩
  · by_cases g2 : lo.length = hi.length
    · have g1' : ¬ (lo.length : Int) < 1 := by omega
      have g2' : ((lo.length : Int) != (hi.length : Int)) = false := by simp [g2]
      have G2 := Lib.hid g2
      have hlh : hi.length ≤ lo.length := by omega
      have hlh2 : lo.length ≤ hi.length := by omega
      clear g2
      go_enter Try.func79, Try.ntmps79
      go_wp2
      generalize w.alloc (.cells #[.int .i64 k, .string t, .slice A lo.length ca, .slice B hi.length cb, .slice K nk kc, .int .i64 mn, .int .i64 mx] 88) = W0 at *
      have HK2 := Lib.hid k2
      have HK3 := Lib.hid k3
      have HBX := Lib.hid hbx
      clear k2 k3 hbx g2'
      go_loopw [3] (fun i wr => ∃ j : Nat, j ≤ lo.length ∧ i = .int .i64 j ∧ Hid (∀ u, u < j → ClassAt lo hi u) ∧ Below W0.heap.size W0 wr) (fun i _ => lo.length - (intOf i).toNat)
      case atStart => exact ⟨0, Nat.zero_le _, rfl, fun u hu => by omega, Below.refl _ _⟩
      case round =>
        obtain ⟨j, hj, rfl, HU, hb⟩ := hrel
        have k2 := cell_keep hb HK2.out
        have k3 := cell_keep hb HK3.out
        have kl := cell_lt k2
        simp only at kl
        by_cases hlt : j < lo.length
        · have hlt' : (j : Int) < (lo.length : Int) := by omega
          have hlt2 : (j : Int) < (hi.length : Int) := by omega
          obtain ⟨b, off, rfl, hc⟩ := (HA.out.keep hb).gi hlt
          obtain ⟨b', off', rfl, hc'⟩ := (HB.out.keep hb).gi (show j < hi.length by omega)
          have HNO : Hid (ClassP lo hi → ClassAt lo hi j) := fun h => h.2.2 j hlt
          have HU2 : Hid (ClassAt lo hi j → ∀ u, u < j + 1 → ClassAt lo hi u) := fun h1 u huj => by
            rcases Nat.lt_succ_iff_lt_or_eq.1 huj with h3 | h3
            · exact HU.out u h3
            · subst h3; exact h1
          have HPV : Hid (∀ v, j = v + 1 → wr.cell? ⟨b', off' + v, none⟩ = some (.int .i64 (gi hi v)) ∧ gi hi v ≤ 255 ∧ 0 ≤ gi hi v) := fun v e => by
            obtain ⟨b2, o2, e2, hc2⟩ := (HB.out.keep hb).gi (show v < hi.length by omega)
            injection e2 with e2
            injection e2 with e3 e4
            subst e3 e4
            have := HU.out v (by omega)
            unfold ClassAt at this
            exact ⟨hc2, by omega, by omega⟩
          have HDF : Hid (ClassAt lo hi j ↔ (0 ≤ gi lo j ∧ gi lo j ≤ 255 ∧ gi lo j ≤ gi hi j ∧ gi hi j ≤ 255 ∧ (0 < j → gi hi (j - 1) + 1 < gi lo j))) := Iff.rfl
          generalize gi lo j = x at *
          generalize gi hi j = y at *
          have HBW : Hid (∀ n, Below w.heap.size w (wr.drewN n)) := fun n => HBX.out.trans ((below_drewN hb n).mono HBX.out.size)
          by_cases q1 : 0 ≤ x ∧ x ≤ 255
          · have Q1 : inB x 0 255 = true := inB_iff.2 q1
            by_cases q2 : x ≤ y ∧ y ≤ 255
            · have Q2 : inB y x 255 = true := inB_iff.2 q2
              by_cases hj0 : j = 0
              · have HU3 := Lib.hid (HU2.out (HDF.out.2 ⟨q1.1, q1.2, q2.1, q2.2, fun h => by omega⟩))
                have d0 : decide ((0 : Int) < (j : Int)) = false := decide_eq_false (by omega)
                have d0' : decide (0 < j) = false := decide_eq_false (by omega)
                have HJ0 := Lib.hid hj0
                clear HU HU2 HPV HDF HNO hj0
                go_wp2
                go_quiet ((first | (go_at_call 28; exact quiet_left (in_lit _ _ _ true _ Q1)) | (go_at_call 28; exact quiet_left (in_lit _ _ _ true _ Q2))))
                go_wp2
                go_roundw
                case rel => exact ⟨j + 1, by omega, by go_num, HU3, below_drewN hb _⟩
                case measure => simp [intOf]; omega
              · obtain ⟨v, rfl⟩ : ∃ v, j = v + 1 := ⟨j - 1, by omega⟩
                obtain ⟨cv, v1, v2⟩ := HPV.out v rfl
                have d0 : decide ((0 : Int) < ((v : Int) + 1)) = true := decide_eq_true (by omega)
                have d0' : decide (0 < v + 1) = true := decide_eq_true (by omega)
                simp only [Nat.add_sub_cancel] at HDF
                generalize gi hi v = z at *
                have hwj : IntKind.i64.wrap (v : Int) = (v : Int) := IntWalk.i64_in _ (by omega)
                have hwj2 : IntKind.i64.wrap ((v : Int) + 1 - 1) = (v : Int) := by rw [IntKind.wrap_i64]; omega
                have hwz : IntKind.i64.wrap (z + 1) = z + 1 := IntWalk.i64_in _ (by omega)
                have hvh : (v : Int) < (hi.length : Int) := by omega
                by_cases q3 : x ≤ z + 1
                · have q3' : decide (x ≤ z + 1) = true := decide_eq_true q3
                  have HNO2 : Hid (¬ ClassP lo hi) := fun h => by have := (HDF.out.1 (HNO.out h)).2.2.2.2 (by omega); omega
                  clear HU HU2 HPV HDF HNO
                  go_wp2
                  go_quiet ((first | (go_at_call 28; exact quiet_left (in_lit _ _ _ true _ Q1)) | (go_at_call 28; exact quiet_left (in_lit _ _ _ true _ Q2))))
                  go_wp2
                  go_ret
                  exact ⟨false, rfl, iffF HNO2.out, HBW.out _⟩
                · have q3' : decide (x ≤ z + 1) = false := decide_eq_false q3
                  have HU3 := Lib.hid (HU2.out (HDF.out.2 ⟨q1.1, q1.2, q2.1, q2.2, fun _ => by omega⟩))
                  clear HU HU2 HPV HDF HNO
                  go_wp2
                  go_quiet ((first | (go_at_call 28; exact quiet_left (in_lit _ _ _ true _ Q1)) | (go_at_call 28; exact quiet_left (in_lit _ _ _ true _ Q2))))
                  go_wp2
                  go_roundw
                  case rel => exact ⟨v + 1 + 1, by omega, by go_num, HU3, below_drewN hb _⟩
                  case measure => simp [intOf]; omega
            · have Q2 : inB y x 255 = false := by cases h : inB y x 255; rfl; exact absurd (inB_iff.1 h) q2
              have HNO2 : Hid (¬ ClassP lo hi) := fun h => by have := HDF.out.1 (HNO.out h); omega
              clear HU HU2 HPV HDF HNO
              go_wp2
              go_quiet ((first | (go_at_call 28; exact quiet_left (in_lit _ _ _ true _ Q1)) | (go_at_call 28; exact quiet_left (in_lit _ _ _ false _ Q2))))
              go_wp2
              go_ret
              exact ⟨false, rfl, iffF HNO2.out, HBW.out _⟩
          · have Q1 : inB x 0 255 = false := by cases h : inB x 0 255; rfl; exact absurd (inB_iff.1 h) q1
            have HNO2 : Hid (¬ ClassP lo hi) := fun h => by have := HDF.out.1 (HNO.out h); omega
            clear HU HU2 HPV HDF HNO
            go_wp2
            go_quiet ((go_at_call 28; exact quiet_left (in_lit _ _ _ false _ Q1)))
            go_wp2
            go_ret
            exact ⟨false, rfl, iffF HNO2.out, HBW.out _⟩
        · have hlt' : ¬ (j : Int) < (lo.length : Int) := by omega
          go_wp2
          go_ret
          exact ⟨true, rfl, iffT ⟨by omega, G2.out, fun u hu => HU.out u (by omega)⟩, HBX.out.trans (hb.mono HBX.out.size)⟩
    · have g1' : ¬ (lo.length : Int) < 1 := by omega
      have g2' : ((lo.length : Int) != (hi.length : Int)) = true := by simp; omega
      have G2 := Lib.hid g2
      clear g2
      go_enter Try.func79, Try.ntmps79
      go_wp2
      go_ret
      exact ⟨false, rfl, iffF (fun h => G2.out h.2.1), hbx⟩

end Go.Proofs.Ytkgiklmdpdakbaa

