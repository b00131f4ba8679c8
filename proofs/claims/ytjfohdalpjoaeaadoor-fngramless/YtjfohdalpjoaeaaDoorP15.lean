/- impl.hasKind, impl.gramCheck.fitsAlone. -/
import Derived.Test.YtjfohdalpjoaeaaDoorP14
namespace Go.Proofs.YtjfohdalpjoaeaaDoor
open Go.RowKit
set_option linter.unusedVariables false

/-- What a search for a part of a kind answers. -/
def KindIx (q : Int) (kids : List Pt) (w : World) (e : Ending) (w' : World) : Prop := ∃ r : Int, e = .returned (.int .i64 r) ∧ (0 ≤ r ↔ ¬ FlatP q kids) ∧ Below w.heap.size w w'

set_option maxRecDepth 100000 in
set_option maxHeartbeats 2000000 in
theorem kindIdx_any (kids : List Pt) (q : Int) (K : Option Addr) (kc B0 P : Nat) (w : World) (hk : Pts w B0 K kids) (hm : kids.length ≤ 1048576) (hP : w.cell? ⟨P, 0, none⟩ = some (.int .i64 q)) :
    Calls Tryd.prog 40 #[.slice K kids.length kc, .func (.func 64) #[] #[.pointer (some ⟨P, 0, none⟩)]] w (KindIx q kids w) := by
  have HR := Lib.hid hk
  have HP := Lib.hid hP
  have hl := cell_lt hP
  simp only at hl
  clear hk hP
  go_enter Tryd.func40, Tryd.ntmps40
  go_wp2
  go_loopw [9] (fun i wr => ∃ j : Nat, j ≤ kids.length ∧ i = .int .i64 j ∧ Hid (∀ u (h : u < kids.length), u < j → kids[u].kind ≠ q) ∧ Below w.heap.size w wr) (fun i _ => kids.length - (intOf i).toNat)
  case atStart => exact ⟨0, Nat.zero_le _, rfl, fun u _ hu => by omega, Below.refl _ _⟩
  case round =>
    obtain ⟨j, hj, rfl, HU, hb⟩ := hrel
    by_cases hlt : j < kids.length
    · have hlt' : (j : Int) < (kids.length : Int) := by omega
      obtain ⟨b, off, rfl, hp⟩ := (HR.out.keep hb).at_ hlt
      have HU2 : Hid (kids[j].kind ≠ q → ∀ u (h : u < kids.length), u < j + 1 → kids[u].kind ≠ q) := fun h1 u hu huj => by
        rcases Nat.lt_succ_iff_lt_or_eq.1 huj with h3 | h3
        · exact HU.out u hu h3
        · subst h3; exact h1
      have HY : Hid (kids[j].kind = q → ¬ FlatP q kids) := fun h hf => hf _ (List.getElem_mem hlt) h
      generalize kids[j] = p at *
      obtain ⟨k, t, lo, hi, pk, mn, mx⟩ := p
      obtain ⟨A, B, K2, ca, cb, kc2, hc, hv⟩ := hp.open_
      obtain ⟨c0, c1, c2, c3, c4, c5, c6⟩ := hc
      clear hp hv
      replace HU2 : Hid (k ≠ q → ∀ u (h : u < kids.length), u < j + 1 → kids[u].kind ≠ q) := HU2
      replace HY : Hid (k = q → ¬ FlatP q kids) := HY
      have hwl : w.heap.size ≤ wr.heap.size := hb.size
      have HCL : Hid (∀ (bb : Bool) (w2 : World), Below wr.heap.size wr w2 → (k == q) = bb → Calls Tryd.prog 64 #[.agg #[.int .i64 k, .string t, .slice A lo.length ca, .slice B hi.length cb, .slice K2 pk.length kc2, .int .i64 mn, .int .i64 mx], .pointer (some ⟨P, 0, none⟩)] w2 fun e w' => e = .returned (.bool bb) ∧ Below w2.heap.size w2 w') :=
        fun bb w2 h2 he => kindClos_any k t lo hi pk.length mn mx A B K2 ca cb kc2 P q bb w2 (cell_keep h2 (cell_keep hb HP.out)) he
      by_cases g : k = q
      · have g1 : Hid ((k == q) = true) := by show _ = _; rw [g]; simp
        have HY2 := Lib.hid (HY.out g)
        clear HU HU2 HY g
        go_wp2_with fail
        refine (HCL.out true _ (below_box _) g1.out).mono ?_
        rintro e w2 ⟨rfl, hb2⟩
        have hb' : Below w.heap.size w w2 := (hb.alloc hwl _).trans (hb2.mono (by simp; omega))
        clear hb hb2
        go_wp2
        go_ret
        exact ⟨j, rfl, ⟨fun _ => HY2.out, fun _ => by omega⟩, hb'⟩
      · have g1 : Hid ((k == q) = false) := by show _ = _; simp [g]
        have HU3 := Lib.hid (HU2.out g)
        clear HU HU2 HY g
        go_wp2_with fail
        refine (HCL.out false _ (below_box _) g1.out).mono ?_
        rintro e w2 ⟨rfl, hb2⟩
        have hb' : Below w.heap.size w w2 := (hb.alloc hwl _).trans (hb2.mono (by simp; omega))
        clear hb hb2
        go_wp2
        go_roundw
        case rel => exact ⟨j + 1, by omega, by go_num, HU3, hb'⟩
        case measure => simp [intOf]; omega
    · have hlt' : ¬ (j : Int) < (kids.length : Int) := by omega
      have HF : Hid (FlatP q kids) := fun p hp => by
        obtain ⟨u, hu, rfl⟩ := List.getElem_of_mem hp
        exact HU.out u hu (by omega)
      go_wp2
      go_ret
      exact ⟨-1, rfl, ⟨fun h => by omega, fun h => absurd HF.out h⟩, hb⟩

set_option maxHeartbeats 1000000 in
theorem hasKind_any (kids : List Pt) (q : Int) (K : Option Addr) (kc B0 : Nat) (w : World) (hk : Pts w B0 K kids) (hm : kids.length ≤ 1048576) :
    Calls Tryd.prog 55 #[.slice K kids.length kc, .int .i64 q] w (BoolPost (¬ FlatP q kids) w) := by
  have HC := Lib.hid (kindIdx_any kids q K kc B0 w.heap.size (w.alloc (.cells #[.int .i64 q] 3)) (hk.keep (below_box _)) hm (by simp))
  clear hk
  go_enter Tryd.func55, Tryd.ntmps55
  go_wp2_with fail
  refine HC.out.mono ?_
  rintro e w2 ⟨r, rfl, h1, hb2⟩
  have H1 := Lib.hid h1
  have HB := Lib.hid ((below_box _).trans (hb2.mono (by simp)))
  clear h1 hb2
  go_wp2
  go_ret
  exact ⟨_, rfl, by rw [decide_eq_true_iff]; exact H1.out, HB.out⟩

theorem as95 (v : Value) (w : World) : (Instr.typeAssert (.iface 95 v) 73 95 true).run Tryd.prog w = .ok (.tuple #[v, .bool true]) w := by kernel_rfl
theorem as97 (v : Value) (w : World) : (Instr.typeAssert (.iface 97 v) 73 97 true).run Tryd.prog w = .ok (.tuple #[v, .bool true]) w := by kernel_rfl
theorem as97_95 (v : Value) (w : World) : (Instr.typeAssert (.iface 97 v) 73 95 true).run Tryd.prog w = .ok (.tuple #[.string ByteArray.empty, .bool false]) w := by kernel_rfl
theorem as98 (v : Value) (w : World) : (Instr.typeAssert (.iface 98 v) 73 98 true).run Tryd.prog w = .ok (.tuple #[v, .bool true]) w := by kernel_rfl
theorem as98_95 (v : Value) (w : World) : (Instr.typeAssert (.iface 98 v) 73 95 true).run Tryd.prog w = .ok (.tuple #[.string ByteArray.empty, .bool false]) w := by kernel_rfl
theorem as98_97 (v : Value) (w : World) : (Instr.typeAssert (.iface 98 v) 73 97 true).run Tryd.prog w = .ok (.tuple #[.agg #[.slice none 0 0, .slice none 0 0], .bool false]) w := by kernel_rfl
theorem as99 (v : Value) (w : World) : (Instr.typeAssert (.iface 99 v) 73 99 true).run Tryd.prog w = .ok (.tuple #[v, .bool true]) w := by kernel_rfl
theorem as99_95 (v : Value) (w : World) : (Instr.typeAssert (.iface 99 v) 73 95 true).run Tryd.prog w = .ok (.tuple #[.string ByteArray.empty, .bool false]) w := by kernel_rfl
theorem as99_97 (v : Value) (w : World) : (Instr.typeAssert (.iface 99 v) 73 97 true).run Tryd.prog w = .ok (.tuple #[.agg #[.slice none 0 0, .slice none 0 0], .bool false]) w := by kernel_rfl
theorem as99_98 (v : Value) (w : World) : (Instr.typeAssert (.iface 99 v) 73 98 true).run Tryd.prog w = .ok (.tuple #[.string ByteArray.empty, .bool false]) w := by kernel_rfl
theorem as100 (v : Value) (w : World) : (Instr.typeAssert (.iface 100 v) 73 100 true).run Tryd.prog w = .ok (.tuple #[v, .bool true]) w := by kernel_rfl
theorem as100_95 (v : Value) (w : World) : (Instr.typeAssert (.iface 100 v) 73 95 true).run Tryd.prog w = .ok (.tuple #[.string ByteArray.empty, .bool false]) w := by kernel_rfl
theorem as100_97 (v : Value) (w : World) : (Instr.typeAssert (.iface 100 v) 73 97 true).run Tryd.prog w = .ok (.tuple #[.agg #[.slice none 0 0, .slice none 0 0], .bool false]) w := by kernel_rfl
theorem as100_98 (v : Value) (w : World) : (Instr.typeAssert (.iface 100 v) 73 98 true).run Tryd.prog w = .ok (.tuple #[.string ByteArray.empty, .bool false]) w := by kernel_rfl
theorem as100_99 (v : Value) (w : World) : (Instr.typeAssert (.iface 100 v) 73 99 true).run Tryd.prog w = .ok (.tuple #[.slice none 0 0, .bool false]) w := by kernel_rfl
theorem as102 (v : Value) (w : World) : (Instr.typeAssert (.iface 102 v) 73 102 true).run Tryd.prog w = .ok (.tuple #[v, .bool true]) w := by kernel_rfl
theorem as102_95 (v : Value) (w : World) : (Instr.typeAssert (.iface 102 v) 73 95 true).run Tryd.prog w = .ok (.tuple #[.string ByteArray.empty, .bool false]) w := by kernel_rfl
theorem as102_97 (v : Value) (w : World) : (Instr.typeAssert (.iface 102 v) 73 97 true).run Tryd.prog w = .ok (.tuple #[.agg #[.slice none 0 0, .slice none 0 0], .bool false]) w := by kernel_rfl
theorem as102_98 (v : Value) (w : World) : (Instr.typeAssert (.iface 102 v) 73 98 true).run Tryd.prog w = .ok (.tuple #[.string ByteArray.empty, .bool false]) w := by kernel_rfl
theorem as102_99 (v : Value) (w : World) : (Instr.typeAssert (.iface 102 v) 73 99 true).run Tryd.prog w = .ok (.tuple #[.slice none 0 0, .bool false]) w := by kernel_rfl
theorem as102_100 (v : Value) (w : World) : (Instr.typeAssert (.iface 102 v) 73 100 true).run Tryd.prog w = .ok (.tuple #[.slice none 0 0, .bool false]) w := by kernel_rfl

set_option maxRecDepth 100000 in
set_option maxHeartbeats 1000000 in
theorem alone1 (g : Nat) (t : ByteArray) (w : World) (hm : t.size ≤ 1048576) :
    Calls Tryd.prog 39 #[.pointer (some ⟨g, 0, none⟩), .iface 95 (.string t)] w (BoolPost (1 ≤ t.size ∧ t.size ≤ 20) w) := by
  have x1 := as95
  obtain ⟨Q, hQ⟩ : ∃ Q : Prop, Q ↔ (1 ≤ t.size ∧ t.size ≤ 20) := ⟨_, Iff.rfl⟩
  rw [show (1 ≤ t.size ∧ t.size ≤ 20) = Q from (propext hQ).symm]
  have HQ := Lib.hid hQ
  clear hQ
  go_enter Tryd.func39, Tryd.ntmps39
  go_wp2
  all_goals go_ret
  all_goals refine ⟨_, rfl, ?_, Below.refl _ _⟩
  all_goals rw [HQ.out]
  all_goals simp
  all_goals omega

set_option maxRecDepth 100000 in
set_option maxHeartbeats 1000000 in
theorem alone2 (g : Nat) (lo hi : List Int) (A B : Option Addr) (ca cb : Nat) (w : World) (ha : Row w A (ints lo)) (hb0 : Row w B (ints hi)) (l2 : lo.length ≤ 1048576) (l3 : hi.length ≤ 1048576) :
    Calls Tryd.prog 39 #[.pointer (some ⟨g, 0, none⟩), .iface 97 (.agg #[.slice A lo.length ca, .slice B hi.length cb])] w (BoolPost (ClassP lo hi) w) := by
  have HC := Lib.hid (areRanges_any lo hi A B ca cb (w.alloc (.cells #[.slice A lo.length ca, .slice B hi.length cb] 97)) (ha.alloc _) (hb0.alloc _) l2 l3)
  have x1 := as97_95
  have x2 := as97
  clear ha hb0
  go_enter Tryd.func39, Tryd.ntmps39
  go_wp2_with fail
  refine HC.out.mono ?_
  rintro e w2 ⟨r, rfl, h1, hb2⟩
  have H1 := Lib.hid h1
  have HB := Lib.hid ((below_box _).trans (hb2.mono (by simp)))
  clear h1 hb2
  go_wp2
  go_ret
  exact ⟨r, rfl, H1.out, HB.out⟩

set_option maxRecDepth 100000 in
set_option maxHeartbeats 1000000 in
theorem alone3 (g : Nat) (rs : List Ru) (t : ByteArray) (a : Option Addr) (c B0 : Nat) (w : World) (hg : w.cell? ⟨g, 0, none⟩ = some (.slice a rs.length c)) (hr : Rus w B0 a rs) (hm : rs.length ≤ 1048576) :
    Calls Tryd.prog 39 #[.pointer (some ⟨g, 0, none⟩), .iface 98 (.string t)] w (BoolPost (∃ x ∈ rs, x.name = t) w) := by
  have HC := Lib.hid (ruleIndex_any rs t a c B0 w hr hm)
  obtain ⟨Q, hQ⟩ : ∃ Q : Prop, Q ↔ (∃ x ∈ rs, x.name = t) := ⟨_, Iff.rfl⟩
  rw [show (∃ x ∈ rs, x.name = t) = Q from (propext hQ).symm]
  have HQ := Lib.hid hQ
  have hgl := cell_lt hg
  simp only at hgl
  have x1 := as98_95
  have x2 := as98_97
  have x3 := as98
  clear hr hQ
  go_enter Tryd.func39, Tryd.ntmps39
  go_wp2_with fail
  refine HC.out.mono ?_
  rintro e w2 ⟨r, rfl, h1, hb2⟩
  have H1 := Lib.hid h1.ge
  clear h1
  go_wp2
  go_ret
  exact ⟨_, rfl, by rw [HQ.out, decide_eq_true_iff]; exact H1.out, hb2⟩

set_option maxRecDepth 100000 in
set_option maxHeartbeats 1000000 in
theorem alone4 (g : Nat) (kids : List Pt) (K : Option Addr) (kc B0 : Nat) (w : World) (hk : Pts w B0 K kids) (hm : kids.length ≤ 1048576) :
    Calls Tryd.prog 39 #[.pointer (some ⟨g, 0, none⟩), .iface 99 (.slice K kids.length kc)] w (BoolPost (kids.length ≠ 1 ∧ FlatP 4 kids) w) := by
  have HC := Lib.hid (hasKind_any kids 4 K kc B0 w hk hm)
  obtain ⟨Q, hQ⟩ : ∃ Q : Prop, Q ↔ (kids.length ≠ 1 ∧ FlatP 4 kids) := ⟨_, Iff.rfl⟩
  rw [show (kids.length ≠ 1 ∧ FlatP 4 kids) = Q from (propext hQ).symm]
  have HQ := Lib.hid hQ
  have x0 := as99_95
  have x1 := as99_97
  have x2 := as99_98
  have x3 := as99
  clear hk hQ
  by_cases h1 : kids.length ≠ 1
  · have n1 : ((kids.length : Int) != 1) = true := by rw [bne_iff_ne]; omega
    have H1 := Lib.hid h1
    clear h1
    go_enter Tryd.func39, Tryd.ntmps39
    go_wp2_with fail
    refine HC.out.mono ?_
    rintro e w2 ⟨r, rfl, h2, hb2⟩
    have H2 := Lib.hid h2
    clear h2
    go_wp2
    all_goals go_ret
    all_goals refine ⟨_, rfl, ?_, hb2⟩
    all_goals rw [HQ.out]
    all_goals have h2 := H2.out
    all_goals have h1 := H1.out
    all_goals (by_cases hf : FlatP 4 kids)
    all_goals cases r
    all_goals simp_all
  · have n1 : ((kids.length : Int) != 1) = false := by rw [bne_eq_false_iff_eq]; omega
    have H1 := Lib.hid h1
    clear h1
    go_enter Tryd.func39, Tryd.ntmps39
    go_wp2
    go_ret
    exact ⟨false, rfl, iffF (fun h => H1.out (HQ.out.1 h).1), Below.refl _ _⟩

set_option maxRecDepth 100000 in
set_option maxHeartbeats 1000000 in
theorem alone5 (g : Nat) (kids : List Pt) (K : Option Addr) (kc B0 : Nat) (w : World) (hk : Pts w B0 K kids) (hm : kids.length ≤ 1048576) :
    Calls Tryd.prog 39 #[.pointer (some ⟨g, 0, none⟩), .iface 100 (.slice K kids.length kc)] w (BoolPost (2 ≤ kids.length ∧ FlatP 5 kids) w) := by
  have HC := Lib.hid (hasKind_any kids 5 K kc B0 w hk hm)
  obtain ⟨Q, hQ⟩ : ∃ Q : Prop, Q ↔ (2 ≤ kids.length ∧ FlatP 5 kids) := ⟨_, Iff.rfl⟩
  rw [show (2 ≤ kids.length ∧ FlatP 5 kids) = Q from (propext hQ).symm]
  have HQ := Lib.hid hQ
  have x0 := as100_95
  have x1 := as100_97
  have x2 := as100_98
  have x3 := as100_99
  have x4 := as100
  clear hk hQ
  by_cases h1 : 2 ≤ kids.length
  · have n1 : (2 : Int) ≤ (kids.length : Int) := by omega
    have H1 := Lib.hid h1
    clear h1
    go_enter Tryd.func39, Tryd.ntmps39
    go_wp2_with fail
    refine HC.out.mono ?_
    rintro e w2 ⟨r, rfl, h2, hb2⟩
    have H2 := Lib.hid h2
    clear h2
    go_wp2
    all_goals go_ret
    all_goals refine ⟨_, rfl, ?_, hb2⟩
    all_goals rw [HQ.out]
    all_goals have h2 := H2.out
    all_goals have h1 := H1.out
    all_goals (by_cases hf : FlatP 5 kids)
    all_goals cases r
    all_goals simp_all
  · have n1 : ¬ (2 : Int) ≤ (kids.length : Int) := by omega
    have H1 := Lib.hid h1
    clear h1
    go_enter Tryd.func39, Tryd.ntmps39
    go_wp2
    go_ret
    exact ⟨false, rfl, iffF (fun h => H1.out (HQ.out.1 h).1), Below.refl _ _⟩

set_option maxRecDepth 100000 in
set_option maxHeartbeats 1000000 in
theorem alone6 (g : Nat) (kids : List Pt) (mn mx : Int) (K : Option Addr) (kc : Nat) (w : World) (hm : kids.length ≤ 1048576) :
    Calls Tryd.prog 39 #[.pointer (some ⟨g, 0, none⟩), .iface 102 (.agg #[.slice K kids.length kc, .int .i64 mn, .int .i64 mx])] w (BoolPost (kids.length = 1 ∧ TimesP mn mx) w) := by
  obtain ⟨Q, hQ⟩ : ∃ Q : Prop, Q ↔ (kids.length = 1 ∧ TimesP mn mx) := ⟨_, Iff.rfl⟩
  rw [show (kids.length = 1 ∧ TimesP mn mx) = Q from (propext hQ).symm]
  have HQ := Lib.hid hQ
  have x0 := as102_95
  have x1 := as102_97
  have x2 := as102_98
  have x3 := as102_99
  have x4 := as102_100
  have x5 := as102
  clear hQ
  by_cases h1 : kids.length = 1
  · have n1 : ((kids.length : Int) == 1) = true := by rw [beq_iff_eq]; omega
    have H1 := Lib.hid h1
    clear h1
    go_enter Tryd.func39, Tryd.ntmps39
    go_wp2_with fail
    refine (areTimes_any mn mx _).mono ?_
    rintro e w2 ⟨r, rfl, h2, rfl⟩
    have H2 := Lib.hid h2
    clear h2
    go_wp2
    all_goals go_ret
    all_goals exact ⟨_, rfl, by rw [HQ.out]; have h2 := H2.out; have h1 := H1.out; simp only [h1, true_and]; exact h2, below_box _⟩
  · have n1 : ((kids.length : Int) == 1) = false := by rw [beq_eq_false_iff_ne]; omega
    have H1 := Lib.hid h1
    clear h1
    go_enter Tryd.func39, Tryd.ntmps39
    go_wp2
    go_ret
    exact ⟨false, rfl, iffF (fun h => H1.out (HQ.out.1 h).1), below_box _⟩

end Go.Proofs.YtjfohdalpjoaeaaDoor
