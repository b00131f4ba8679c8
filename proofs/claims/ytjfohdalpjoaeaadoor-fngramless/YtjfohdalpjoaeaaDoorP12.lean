/- impl.GramOk's small functions: ruleIndex, hasKind, areTimes, areRanges. -/
import Derived.Test.YtjfohdalpjoaeaaDoorP10
namespace Go.Proofs.YtjfohdalpjoaeaaDoor
open Go.RowKit
set_option linter.unusedVariables false

set_option maxRecDepth 100000 in
set_option maxHeartbeats 1000000 in
theorem ruleClos_any (nm : ByteArray) (k : Int) (t : ByteArray) (lo hi : List Int) (nk : Nat) (mn mx : Int) (A B K : Option Addr) (ca cb kc P : Nat) (s : ByteArray) (b : Bool) (w : World) (hP : w.cell? ⟨P, 0, none⟩ = some (.string s)) (hs : (nm.toList == s.toList) = b) :
    Calls Tryd.prog 37 #[.agg #[.string nm, .int .i64 k, .string t, .slice A lo.length ca, .slice B hi.length cb, .slice K nk kc, .int .i64 mn, .int .i64 mx], .pointer (some ⟨P, 0, none⟩)] w fun e w' => e = .returned (.bool b) ∧ Below w.heap.size w w' := by
  have hl := cell_lt hP
  simp only at hl
  go_enter Tryd.func37, Tryd.ntmps37
  go_wp2
  go_ret
  exact ⟨rfl, below_box _⟩

theorem RuAt.open_ {w : World} {B0 b off : Nat} {r : Ru} (h : RuAt w B0 b off r) : ∃ k t lo hi kids mn mx A B K ca cb kc, r = ⟨r.name, .mk k t lo hi kids mn mx⟩ ∧ PtCells w b (off + 1) k t lo hi kids mn mx A B K ca cb kc ∧ PtV w B0 lo hi kids A B K := by
  obtain ⟨n, p⟩ := r
  obtain ⟨k, t, lo, hi, kids, mn, mx⟩ := p
  obtain ⟨A, B, K, ca, cb, kc, hc, hv⟩ := h.p.open_
  exact ⟨k, t, lo, hi, kids, mn, mx, A, B, K, ca, cb, kc, rfl, hc, hv⟩

set_option maxRecDepth 100000 in
set_option maxHeartbeats 2000000 in
theorem ruleIdx_any (rs : List Ru) (s : ByteArray) (a : Option Addr) (c B0 P : Nat) (w : World) (hr : Rus w B0 a rs) (hm : rs.length ≤ 1048576) (hP : w.cell? ⟨P, 0, none⟩ = some (.string s)) :
    Calls Tryd.prog 36 #[.slice a rs.length c, .func (.func 37) #[] #[.pointer (some ⟨P, 0, none⟩)]] w fun e w' => ∃ r : Int, e = .returned (.int .i64 r) ∧ RuleIx rs s r ∧ Below w.heap.size w w' := by
  have HR := Lib.hid hr
  have HP := Lib.hid hP
  have hl := cell_lt hP
  simp only at hl
  clear hr hP
  go_enter Tryd.func36, Tryd.ntmps36
  go_wp2
  go_loopw [9] (fun i wr => ∃ j : Nat, j ≤ rs.length ∧ i = .int .i64 j ∧ Hid (∀ u (h : u < rs.length), u < j → rs[u].name ≠ s) ∧ Below w.heap.size w wr) (fun i _ => rs.length - (intOf i).toNat)
  case atStart => exact ⟨0, Nat.zero_le _, rfl, fun u _ hu => by omega, Below.refl _ _⟩
  case round =>
    obtain ⟨j, hj, rfl, HU, hb⟩ := hrel
    by_cases hlt : j < rs.length
    · have hlt' : (j : Int) < (rs.length : Int) := by omega
      obtain ⟨b, off, rfl, hn⟩ := (HR.out.keep hb).at_ hlt
      have n0 := hn.n
      obtain ⟨k, t, lo, hi, kids, mn, mx, A, B, K, ca, cb, kc, hE, hc, hv⟩ := hn.open_
      obtain ⟨c0, c1, c2, c3, c4, c5, c6⟩ := hc
      have HU2 : Hid (rs[j].name ≠ s → ∀ u (h : u < rs.length), u < j + 1 → rs[u].name ≠ s) := fun h1 u hu huj => by
        rcases Nat.lt_succ_iff_lt_or_eq.1 huj with h3 | h3
        · exact HU.out u hu h3
        · subst h3; exact h1
      have HY : Hid (rs[j].name = s → RuleIx rs s j) := fun h => .inr ⟨j, rfl, hlt, h, HU.out⟩
      generalize rs[j].name = nm at *
      clear hE hn hv
      have hwl : w.heap.size ≤ wr.heap.size := hb.size
      have HCL : Hid (∀ (bb : Bool) (w2 : World), Below wr.heap.size wr w2 → (nm.toList == s.toList) = bb → Calls Tryd.prog 37 #[.agg #[.string nm, .int .i64 k, .string t, .slice A lo.length ca, .slice B hi.length cb, .slice K kids.length kc, .int .i64 mn, .int .i64 mx], .pointer (some ⟨P, 0, none⟩)] w2 fun e w' => e = .returned (.bool bb) ∧ Below w2.heap.size w2 w') :=
        fun bb w2 h2 he => ruleClos_any nm k t lo hi kids.length mn mx A B K ca cb kc P s bb w2 (cell_keep h2 (cell_keep hb HP.out)) he
      by_cases g : nm = s
      · have g1 : Hid ((nm.toList == s.toList) = true) := by show _ = _; rw [g]; simp
        have HY2 := Lib.hid (HY.out g)
        clear HU HU2 HY g
        go_wp2_with fail
        refine (HCL.out true _ (below_box _) g1.out).mono ?_
        rintro e w2 ⟨rfl, hb2⟩
        have hb' : Below w.heap.size w w2 := (hb.alloc hwl _).trans (hb2.mono (by simp; omega))
        clear hb hb2
        go_wp2
        go_ret
        exact ⟨j, rfl, HY2.out, hb'⟩
      · have g1 := Lib.hid (str_ne g)
        have HU3 := Lib.hid (HU2.out g)
        clear HU HU2 HY g
        go_wp2_with fail
        refine (HCL.out false _ (below_box _) g1.out).mono ?_
        rintro e w2 ⟨rfl, hb2⟩
        have hb' : Below w.heap.size w w2 := (hb.alloc hwl _).trans (hb2.mono (by simp; omega))
        clear hb hb2
        go_wp2
        go_roundw
        case rel => exact ⟨j + 1, by omega, by go_num, HU3, hb'⟩
        case measure => simp [intOf]; omega
    · have hlt' : ¬ (j : Int) < (rs.length : Int) := by omega
      go_wp2
      go_ret
      refine ⟨-1, rfl, .inl ⟨rfl, fun x hx => ?_⟩, hb⟩
      obtain ⟨u, hu, rfl⟩ := List.getElem_of_mem hx
      exact HU.out u hu (by omega)

set_option maxHeartbeats 1000000 in
theorem ruleIndex_any (rs : List Ru) (s : ByteArray) (a : Option Addr) (c B0 : Nat) (w : World) (hr : Rus w B0 a rs) (hm : rs.length ≤ 1048576) :
    Calls Tryd.prog 22 #[.slice a rs.length c, .string s] w fun e w' => ∃ r : Int, e = .returned (.int .i64 r) ∧ RuleIx rs s r ∧ Below w.heap.size w w' := by
  have HC := Lib.hid (ruleIdx_any rs s a c B0 w.heap.size (w.alloc (.cells #[.string s] 9)) (hr.keep (below_box _)) hm (by simp))
  clear hr
  go_enter Tryd.func22, Tryd.ntmps22
  go_wp2_with fail
  refine HC.out.mono ?_
  rintro e w2 ⟨r, rfl, h1, hb2⟩
  have H1 := Lib.hid h1
  clear h1
  go_wp2
  go_ret
  exact ⟨r, rfl, H1.out, (below_box _).trans (hb2.mono (by simp))⟩

set_option maxRecDepth 100000 in
set_option maxHeartbeats 1000000 in
theorem kindClos_any (k : Int) (t : ByteArray) (lo hi : List Int) (nk : Nat) (mn mx : Int) (A B K : Option Addr) (ca cb kc P : Nat) (q : Int) (b : Bool) (w : World) (hP : w.cell? ⟨P, 0, none⟩ = some (.int .i64 q)) (hs : (k == q) = b) :
    Calls Tryd.prog 64 #[.agg #[.int .i64 k, .string t, .slice A lo.length ca, .slice B hi.length cb, .slice K nk kc, .int .i64 mn, .int .i64 mx], .pointer (some ⟨P, 0, none⟩)] w fun e w' => e = .returned (.bool b) ∧ Below w.heap.size w w' := by
  have hl := cell_lt hP
  simp only at hl
  go_enter Tryd.func64, Tryd.ntmps64
  go_wp2
  go_ret
  exact ⟨rfl, below_box _⟩

def TimesP (mn mx : Int) : Prop := 0 ≤ mn ∧ mn ≤ 6 ∧ (mx = -1 ∨ (mn ≤ mx ∧ mx ≤ 6 ∧ 0 < mx))
def BoolSame (P : Prop) (w : World) (e : Ending) (w' : World) : Prop := ∃ r : Bool, e = .returned (.bool r) ∧ (r = true ↔ P) ∧ w = w'

set_option maxHeartbeats 400000 in
theorem areTimes_any (mn mx : Int) (w : World) :
    Calls Tryd.prog 56 #[.int .i64 mn, .int .i64 mx] w (BoolSame (TimesP mn mx) w) := by
  by_cases h1 : mn < 0
  · have H := Lib.hid h1
    go_enter Tryd.func56, Tryd.ntmps56
    go_wp2
    go_ret
    exact ⟨false, rfl, iffF (fun h => by have := H.out; unfold TimesP at h; omega), rfl⟩
  by_cases h2 : 6 < mn
  · have H := Lib.hid h2
    go_enter Tryd.func56, Tryd.ntmps56
    go_wp2
    go_ret
    exact ⟨false, rfl, iffF (fun h => by have := H.out; unfold TimesP at h; omega), rfl⟩
  by_cases h3 : mx = -1
  · have x1 : (mx == -1) = true := by simp [h3]
    have H := Lib.hid h3
    clear h3
    go_enter Tryd.func56, Tryd.ntmps56
    go_wp2
    go_ret
    exact ⟨true, rfl, iffT ⟨by omega, by omega, .inl H.out⟩, rfl⟩
  have x1 : (mx == -1) = false := by simp [h3]
  have H3 := Lib.hid h3
  clear h3
  by_cases h4 : 1 ≤ mn
  · have h4' : max mn 1 = mn := by omega
    have H4 := Lib.hid h4'
    clear h4'
    go_enter Tryd.func56, Tryd.ntmps56
    go_wp2
    all_goals go_ret
    all_goals refine ⟨_, rfl, ?_, rfl⟩
    all_goals have := H3.out
    all_goals unfold TimesP
    all_goals simp
    all_goals omega
  · go_enter Tryd.func56, Tryd.ntmps56
    go_wp2
    all_goals go_ret
    all_goals refine ⟨_, rfl, ?_, rfl⟩
    all_goals have := H3.out
    all_goals unfold TimesP
    all_goals simp
    all_goals omega

def rstart (hi : List Int) : Nat → Int
  | 0 => 0
  | j + 1 => gi hi j + 2

set_option maxRecDepth 100000 in
set_option maxHeartbeats 2000000 in
theorem areRanges_any (lo hi : List Int) (A B : Option Addr) (ca cb : Nat) (w : World) (ha : Row w A (ints lo)) (hb0 : Row w B (ints hi)) (l2 : lo.length ≤ 1048576) (l3 : hi.length ≤ 1048576) :
    Calls Tryd.prog 54 #[.slice A lo.length ca, .slice B hi.length cb] w (BoolPost (ClassP lo hi) w) := by
  have HA := Lib.hid ha
  have HB := Lib.hid hb0
  clear ha hb0
  by_cases g1 : lo.length < 1
  · have g1' : (lo.length : Int) < 1 := by omega
    have G := Lib.hid g1
    go_enter Tryd.func54, Tryd.ntmps54
    go_wp2
    go_ret
    exact ⟨false, rfl, iffF (fun h => by have := h.1; have := G.out; omega), Below.refl _ _⟩
  · by_cases g2 : lo.length = hi.length
    · have g1' : ¬ (lo.length : Int) < 1 := by omega
      have g2' : ((lo.length : Int) != (hi.length : Int)) = false := by simp [g2]
      have G2 := Lib.hid g2
      have hlh : hi.length ≤ lo.length := by omega
      have hlh2 : lo.length ≤ hi.length := by omega
      clear g2
      go_enter Tryd.func54, Tryd.ntmps54
      go_wp2
      clear g2'
      go_loopw [5, 19] (fun s i wr => ∃ j : Nat, j ≤ lo.length ∧ i = .int .i64 j ∧ (∃ z : Int, s = .int .i64 z ∧ Hid (z = rstart hi j) ∧ 0 ≤ z ∧ z ≤ 257) ∧ Hid (∀ u, u < j → ClassAt lo hi u) ∧ Below w.heap.size w wr) (fun _ i _ => lo.length - (intOf i).toNat)
      case atStart => exact ⟨0, Nat.zero_le _, rfl, ⟨0, rfl, rfl, by omega, by omega⟩, fun u hu => by omega, Below.refl _ _⟩
      case round =>
        obtain ⟨j, hj, rfl, ⟨z, rfl, HZ, z0, z1⟩, HU, hb⟩ := hrel
        by_cases hlt : j < lo.length
        · have hlt' : (j : Int) < (lo.length : Int) := by omega
          have hlt2 : (j : Int) < (hi.length : Int) := by omega
          obtain ⟨b, off, rfl, hc⟩ := (HA.out.keep hb).gi hlt
          obtain ⟨b', off', rfl, hc'⟩ := (HB.out.keep hb).gi (show j < hi.length by omega)
          have HNO : Hid (ClassP lo hi → ClassAt lo hi j) := fun h => h.2.2 j hlt
          have HU2 : Hid (ClassAt lo hi j → ∀ u, u < j + 1 → ClassAt lo hi u) := fun h1 u huj => by
            rcases Nat.lt_succ_iff_lt_or_eq.1 huj with h3 | h3
            · exact HU.out u h3
            · subst h3; exact h1
          have HDF : Hid (ClassAt lo hi j ↔ (z ≤ gi lo j ∧ gi lo j ≤ gi hi j ∧ gi hi j ≤ 255)) := by
            show _ ↔ _
            have hz := HZ.out
            unfold ClassAt
            cases j with
            | zero =>
              simp only [rstart] at hz
              subst hz
              constructor
              · rintro ⟨a1, a2, a3, a4, a5⟩; omega
              · rintro ⟨a1, a2, a3⟩; exact ⟨by omega, by omega, by omega, by omega, fun h => by omega⟩
            | succ v =>
              simp only [rstart] at hz
              simp only [Nat.add_sub_cancel]
              constructor
              · rintro ⟨a1, a2, a3, a4, a5⟩; have := a5 (by omega); omega
              · rintro ⟨a1, a2, a3⟩; exact ⟨by omega, by omega, by omega, by omega, fun h => by omega⟩
          have HRS : Hid (gi hi j + 2 = rstart hi (j + 1)) := rfl
          generalize gi lo j = x at *
          generalize gi hi j = y at *
          have HBW : Hid (∀ n, Below w.heap.size w (wr.drewN n)) := fun n => below_drewN hb n
          by_cases q1 : x < z
          · have q1' : decide (x < z) = true := decide_eq_true q1
            have HNO2 : Hid (¬ ClassP lo hi) := fun h => by have := HDF.out.1 (HNO.out h); omega
            clear HU HU2 HDF HNO
            go_wp2
            go_quiet (fail)
            go_wp2
            go_ret
            exact ⟨false, rfl, iffF HNO2.out, HBW.out _⟩
          · have q1' : decide (x < z) = false := decide_eq_false q1
            by_cases q2 : y < x
            · have q2' : decide (y < x) = true := decide_eq_true q2
              have HNO2 : Hid (¬ ClassP lo hi) := fun h => by have := HDF.out.1 (HNO.out h); omega
              clear HU HU2 HDF HNO
              go_wp2
              go_quiet (fail)
              go_wp2
              go_ret
              exact ⟨false, rfl, iffF HNO2.out, HBW.out _⟩
            · have q2' : decide (y < x) = false := decide_eq_false q2
              by_cases q3 : 255 < y
              · have q3' : decide (255 < y) = true := decide_eq_true q3
                have HNO2 : Hid (¬ ClassP lo hi) := fun h => by have := HDF.out.1 (HNO.out h); omega
                clear HU HU2 HDF HNO
                go_wp2
                go_quiet (fail)
                go_wp2
                go_ret
                exact ⟨false, rfl, iffF HNO2.out, HBW.out _⟩
              · have q3' : decide (255 < y) = false := decide_eq_false q3
                have HU3 := Lib.hid (HU2.out (HDF.out.2 ⟨by omega, by omega, by omega⟩))
                clear HU HU2 HDF HNO
                go_wp2
                go_quiet (fail)
                go_wp2
                go_roundw
                case rel => exact ⟨j + 1, by omega, by go_num, ⟨y + 2, by go_num, HRS, by omega, by omega⟩, HU3, HBW.out _⟩
                case measure => simp [intOf]; omega
        · have hlt' : ¬ (j : Int) < (lo.length : Int) := by omega
          go_wp2
          go_ret
          exact ⟨true, rfl, iffT ⟨by omega, G2.out, fun u hu => HU.out u (by omega)⟩, hb⟩
    · have g1' : ¬ (lo.length : Int) < 1 := by omega
      have g2' : ((lo.length : Int) != (hi.length : Int)) = true := by simp; omega
      have G2 := Lib.hid g2
      clear g2
      go_enter Tryd.func54, Tryd.ntmps54
      go_wp2
      go_ret
      exact ⟨false, rfl, iffF (fun h => G2.out h.2.1), Below.refl _ _⟩

end Go.Proofs.YtjfohdalpjoaeaaDoor
