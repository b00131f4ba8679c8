/- impl.areNames, isWellFormed; the methods kids. -/
import Derived.Test.YtkhcappjhefkjaaGreatDoorJ9
import Derived.Test.YtkhcappjhefkjaaGreatDoorJ8
import Derived.Test.YtkhcappjhefkjaaGreatDoorJ4
namespace Go.Proofs.YtkhcappjhefkjaaGreatDoor
open Go.RowKit Go.Shelf
set_option linter.unusedVariables false

theorem contains_any (b off i c : Nat) (ns : List ByteArray) (x : ByteArray) (w : World) (hi : i ≤ ns.length) (hm : ns.length ≤ 1048576) (hc : ∀ j (h : j < ns.length), w.cell? ⟨b, off + j, none⟩ = some (.string ns[j])) :
    Calls Tryz.prog 144 #[.slice (some ⟨b, off, none⟩) i c, .string x] w fun e w' => ∃ r, e = .returned (.bool r) ∧ (r = true ↔ ∃ k, ∃ (h : k < ns.length), k < i ∧ ns[k] = x) ∧ w = w' := by
  have := Tryz.slices_Contains_string b off i c ns x w hi (by omega) (fun j hj => by rw [hc j hj, List.getD_eq_getElem?_getD, List.getElem?_eq_getElem hj]; rfl)
  refine this.mono fun e w' ⟨h1, h2⟩ => ⟨_, h1, ?_, h2.symm⟩
  rw [Lib.containsS_iff, List.mem_iff_getElem]
  constructor
  · rintro ⟨k, hk, rfl⟩
    simp at hk
    exact ⟨k, by omega, by omega, by simp⟩
  · rintro ⟨k, hk, hki, rfl⟩
    exact ⟨k, by simp; omega, by simp⟩

set_option maxRecDepth 100000 in
set_option maxHeartbeats 1000000 in
theorem areNames_any (ns : List ByteArray) (A : Option Addr) (ca : Nat) (w : World) (hr : Row w A (strs ns)) (hle : ns.length ≤ ca) (hm : ns.length ≤ 1048576) (hn : ∀ n ∈ ns, n.size ≤ 1048576) :
    Calls Tryz.prog 139 #[.slice A ns.length ca] w (BoolPost (NmsP ns) w) := by
  obtain ⟨Q, hQ⟩ : ∃ Q : Prop, Q ↔ NmsTo ns ns.length := ⟨_, Iff.rfl⟩
  rw [show NmsP ns = Q from propext (nms_iff.trans hQ.symm)]
  have HQ := Lib.hid hQ
  have HR := Lib.hid hr
  have HN := Lib.hid hn
  clear hQ hr hn
  go_enter Tryz.func139, Tryz.ntmps139
  go_wp2
  go_loopw [7] (fun i wr => ∃ j : Nat, j ≤ ns.length ∧ i = .int .i64 j ∧ Hid (NmsTo ns j) ∧ Below w.heap.size w wr) (fun i _ => ns.length - (intOf i).toNat)
  case atStart => exact ⟨0, Nat.zero_le _, rfl, fun u _ hu => by omega, Below.refl _ _⟩
  case round =>
    obtain ⟨j, hj, rfl, HU, hb⟩ := hrel
    by_cases hlt : j < ns.length
    · have hlt' : (j : Int) < (ns.length : Int) := by omega
      obtain ⟨b, off, rfl, hc⟩ := (HR.out.keep hb).str hlt
      have HRW : Hid (∀ w', Below w.heap.size w w' → ∀ k (hk : k < ns.length), w'.cell? ⟨b, off + k, none⟩ = some (.string ns[k])) := fun w' h k hk => by
        obtain ⟨b', off', e', hc'⟩ := (HR.out.keep h).str hk
        injection e' with e'; injection e' with e1 e2; subst e1 e2; exact hc'
      have HUJ : Hid ((NameP ns[j] ∧ ∀ k (hk : k < j), ns[k] ≠ ns[j]) → NmsTo ns (j + 1)) := fun h1 u hu huj => by
        rcases Nat.lt_succ_iff_lt_or_eq.1 huj with h3 | h3
        · exact HU.out u hu h3
        · subst h3; exact h1
      have HNO : Hid (Q → NameP ns[j] ∧ ∀ k (hk : k < j), ns[k] ≠ ns[j]) := fun h => HQ.out.1 h j hlt hlt
      have hsz := HN.out _ (List.getElem_mem hlt)
      generalize hsj : ns[j] = s at *
      have HC := Lib.hid (isName_any s wr hsz)
      have HC2 : Hid (∀ w2, Below w.heap.size w w2 → Calls Tryz.prog 144 #[.slice (some ⟨b, off, none⟩) j ca, .string s] w2 fun e w' => ∃ r, e = .returned (.bool r) ∧ (r = true ↔ ∃ k, ∃ (h : k < ns.length), k < j ∧ ns[k] = s) ∧ w2 = w') := fun w2 h2 => contains_any b off j ca ns s w2 (by omega) hm (HRW.out w2 h2)
      have hjc : (j : Int) ≤ (ca : Int) := by omega
      clear hsj
      go_wp2_with fail
      refine HC.out.mono ?_
      rintro e w2 ⟨r, rfl, h1, hb2⟩
      have hb' := hb.trans (hb2.mono hb.size)
      have H1 := Lib.hid h1
      clear hb2 h1 HC hc hb
      cases r
      · go_wp2
        go_ret
        exact ⟨false, rfl, iffF (fun h => by have := H1.out.2 (HNO.out h).1; cases this), hb'⟩
      · go_wp2_with fail
        refine (HC2.out w2 hb').mono ?_
        rintro e w3 ⟨r, rfl, h2, rfl⟩
        have H2 := Lib.hid h2
        clear h2 HC2
        cases r
        · have HU3 : Hid (NmsTo ns (j + 1)) := HUJ.out ⟨(by first | exact H1.out.1 rfl | exact H1.out.1 trivial), fun k hk e => by
            have := H2.out.2 ⟨k, by omega, hk, e⟩
            cases this⟩
          clear HU HUJ HNO H1 H2
          go_wp2
          go_roundw
          case rel => exact ⟨j + 1, by omega, by go_num, HU3, hb'⟩
          case measure => simp [intOf]; omega
        · have HF : Hid (¬ Q) := fun h => by
            obtain ⟨k, hk, hkj, e⟩ := (show (∃ k, ∃ (h : k < ns.length), k < j ∧ ns[k] = s) by first | exact H2.out.1 rfl | exact H2.out.1 trivial)
            exact (HNO.out h).2 k hkj e
          clear HU HUJ HNO H1 H2
          go_wp2
          go_ret
          exact ⟨false, rfl, iffF HF.out, hb'⟩
    · have hlt' : ¬ (j : Int) < (ns.length : Int) := by omega
      obtain rfl : j = ns.length := by omega
      have HT : Hid Q := HQ.out.2 HU.out
      go_wp2
      go_ret
      exact ⟨true, rfl, iffT HT.out, hb⟩

theorem as93 (v : Value) (w : World) : (Instr.typeAssert (.iface 145 v) 121 145 true).run Tryz.prog w = .ok (.tuple #[v, .bool true]) w := by kernel_rfl
theorem as93_94 (v : Value) (w : World) : (Instr.typeAssert (.iface 145 v) 121 146 true).run Tryz.prog w = .ok (.tuple #[.bool false, .bool false]) w := by kernel_rfl
theorem as93_95 (v : Value) (w : World) : (Instr.typeAssert (.iface 145 v) 121 147 true).run Tryz.prog w = .ok (.tuple #[.string ByteArray.empty, .bool false]) w := by kernel_rfl
theorem as93_96 (v : Value) (w : World) : (Instr.typeAssert (.iface 145 v) 121 148 true).run Tryz.prog w = .ok (.tuple #[.string ByteArray.empty, .bool false]) w := by kernel_rfl
theorem as93_97 (v : Value) (w : World) : (Instr.typeAssert (.iface 145 v) 121 149 true).run Tryz.prog w = .ok (.tuple #[.slice none 0 0, .bool false]) w := by kernel_rfl
theorem as93_99 (v : Value) (w : World) : (Instr.typeAssert (.iface 145 v) 121 151 true).run Tryz.prog w = .ok (.tuple #[.agg #[.slice none 0 0, .slice none 0 0], .bool false]) w := by kernel_rfl
theorem as94_93 (v : Value) (w : World) : (Instr.typeAssert (.iface 146 v) 121 145 true).run Tryz.prog w = .ok (.tuple #[.agg #[], .bool false]) w := by kernel_rfl
theorem as94 (v : Value) (w : World) : (Instr.typeAssert (.iface 146 v) 121 146 true).run Tryz.prog w = .ok (.tuple #[v, .bool true]) w := by kernel_rfl
theorem as94_95 (v : Value) (w : World) : (Instr.typeAssert (.iface 146 v) 121 147 true).run Tryz.prog w = .ok (.tuple #[.string ByteArray.empty, .bool false]) w := by kernel_rfl
theorem as94_96 (v : Value) (w : World) : (Instr.typeAssert (.iface 146 v) 121 148 true).run Tryz.prog w = .ok (.tuple #[.string ByteArray.empty, .bool false]) w := by kernel_rfl
theorem as94_97 (v : Value) (w : World) : (Instr.typeAssert (.iface 146 v) 121 149 true).run Tryz.prog w = .ok (.tuple #[.slice none 0 0, .bool false]) w := by kernel_rfl
theorem as94_99 (v : Value) (w : World) : (Instr.typeAssert (.iface 146 v) 121 151 true).run Tryz.prog w = .ok (.tuple #[.agg #[.slice none 0 0, .slice none 0 0], .bool false]) w := by kernel_rfl
theorem as95_93 (v : Value) (w : World) : (Instr.typeAssert (.iface 147 v) 121 145 true).run Tryz.prog w = .ok (.tuple #[.agg #[], .bool false]) w := by kernel_rfl
theorem as95_94 (v : Value) (w : World) : (Instr.typeAssert (.iface 147 v) 121 146 true).run Tryz.prog w = .ok (.tuple #[.bool false, .bool false]) w := by kernel_rfl
theorem as95 (v : Value) (w : World) : (Instr.typeAssert (.iface 147 v) 121 147 true).run Tryz.prog w = .ok (.tuple #[v, .bool true]) w := by kernel_rfl
theorem as95_96 (v : Value) (w : World) : (Instr.typeAssert (.iface 147 v) 121 148 true).run Tryz.prog w = .ok (.tuple #[.string ByteArray.empty, .bool false]) w := by kernel_rfl
theorem as95_97 (v : Value) (w : World) : (Instr.typeAssert (.iface 147 v) 121 149 true).run Tryz.prog w = .ok (.tuple #[.slice none 0 0, .bool false]) w := by kernel_rfl
theorem as95_99 (v : Value) (w : World) : (Instr.typeAssert (.iface 147 v) 121 151 true).run Tryz.prog w = .ok (.tuple #[.agg #[.slice none 0 0, .slice none 0 0], .bool false]) w := by kernel_rfl
theorem as96_93 (v : Value) (w : World) : (Instr.typeAssert (.iface 148 v) 121 145 true).run Tryz.prog w = .ok (.tuple #[.agg #[], .bool false]) w := by kernel_rfl
theorem as96_94 (v : Value) (w : World) : (Instr.typeAssert (.iface 148 v) 121 146 true).run Tryz.prog w = .ok (.tuple #[.bool false, .bool false]) w := by kernel_rfl
theorem as96_95 (v : Value) (w : World) : (Instr.typeAssert (.iface 148 v) 121 147 true).run Tryz.prog w = .ok (.tuple #[.string ByteArray.empty, .bool false]) w := by kernel_rfl
theorem as96 (v : Value) (w : World) : (Instr.typeAssert (.iface 148 v) 121 148 true).run Tryz.prog w = .ok (.tuple #[v, .bool true]) w := by kernel_rfl
theorem as96_97 (v : Value) (w : World) : (Instr.typeAssert (.iface 148 v) 121 149 true).run Tryz.prog w = .ok (.tuple #[.slice none 0 0, .bool false]) w := by kernel_rfl
theorem as96_99 (v : Value) (w : World) : (Instr.typeAssert (.iface 148 v) 121 151 true).run Tryz.prog w = .ok (.tuple #[.agg #[.slice none 0 0, .slice none 0 0], .bool false]) w := by kernel_rfl
theorem as97_93 (v : Value) (w : World) : (Instr.typeAssert (.iface 149 v) 121 145 true).run Tryz.prog w = .ok (.tuple #[.agg #[], .bool false]) w := by kernel_rfl
theorem as97_94 (v : Value) (w : World) : (Instr.typeAssert (.iface 149 v) 121 146 true).run Tryz.prog w = .ok (.tuple #[.bool false, .bool false]) w := by kernel_rfl
theorem as97_95 (v : Value) (w : World) : (Instr.typeAssert (.iface 149 v) 121 147 true).run Tryz.prog w = .ok (.tuple #[.string ByteArray.empty, .bool false]) w := by kernel_rfl
theorem as97_96 (v : Value) (w : World) : (Instr.typeAssert (.iface 149 v) 121 148 true).run Tryz.prog w = .ok (.tuple #[.string ByteArray.empty, .bool false]) w := by kernel_rfl
theorem as97 (v : Value) (w : World) : (Instr.typeAssert (.iface 149 v) 121 149 true).run Tryz.prog w = .ok (.tuple #[v, .bool true]) w := by kernel_rfl
theorem as97_99 (v : Value) (w : World) : (Instr.typeAssert (.iface 149 v) 121 151 true).run Tryz.prog w = .ok (.tuple #[.agg #[.slice none 0 0, .slice none 0 0], .bool false]) w := by kernel_rfl
theorem as99_93 (v : Value) (w : World) : (Instr.typeAssert (.iface 151 v) 121 145 true).run Tryz.prog w = .ok (.tuple #[.agg #[], .bool false]) w := by kernel_rfl
theorem as99_94 (v : Value) (w : World) : (Instr.typeAssert (.iface 151 v) 121 146 true).run Tryz.prog w = .ok (.tuple #[.bool false, .bool false]) w := by kernel_rfl
theorem as99_95 (v : Value) (w : World) : (Instr.typeAssert (.iface 151 v) 121 147 true).run Tryz.prog w = .ok (.tuple #[.string ByteArray.empty, .bool false]) w := by kernel_rfl
theorem as99_96 (v : Value) (w : World) : (Instr.typeAssert (.iface 151 v) 121 148 true).run Tryz.prog w = .ok (.tuple #[.string ByteArray.empty, .bool false]) w := by kernel_rfl
theorem as99_97 (v : Value) (w : World) : (Instr.typeAssert (.iface 151 v) 121 149 true).run Tryz.prog w = .ok (.tuple #[.slice none 0 0, .bool false]) w := by kernel_rfl
theorem as99 (v : Value) (w : World) : (Instr.typeAssert (.iface 151 v) 121 151 true).run Tryz.prog w = .ok (.tuple #[v, .bool true]) w := by kernel_rfl

set_option maxRecDepth 100000 in
set_option maxHeartbeats 1000000 in
theorem wf3 (t : ByteArray) (w : World) (hm : t.size ≤ 1048576) : Calls Tryz.prog 120 #[.iface 147 (.string t)] w (BoolPost (NumP t) w) := by
  have HC := Lib.hid (isNumber_any t w hm)
  have x1 := as95
  go_enter Tryz.func120, Tryz.ntmps120
  go_wp2_with fail
  refine HC.out.mono ?_
  rintro e w2 ⟨r, rfl, h1, hb2⟩
  go_wp2
  go_ret
  exact ⟨r, rfl, h1, hb2⟩
set_option maxRecDepth 100000 in
set_option maxHeartbeats 1000000 in
theorem wf4 (t : ByteArray) (w : World) (hm : t.size ≤ 1048576) : Calls Tryz.prog 120 #[.iface 148 (.string t)] w (BoolPost (QuoP t) w) := by
  have HC := Lib.hid (isQuotable_any t w hm)
  have x1 := as96_95
  have x2 := as96
  go_enter Tryz.func120, Tryz.ntmps120
  go_wp2_with fail
  refine HC.out.mono ?_
  rintro e w2 ⟨r, rfl, h1, hb2⟩
  go_wp2
  go_ret
  exact ⟨r, rfl, h1, hb2⟩
set_option maxRecDepth 100000 in
set_option maxHeartbeats 1000000 in
theorem wf6 (ns : List ByteArray) (lk : Nat) (A K : Option Addr) (ca kc : Nat) (w : World) (hr : Row w A (strs ns)) (hle : ns.length ≤ ca) (hm : ns.length ≤ 1048576) (hn : ∀ n ∈ ns, n.size ≤ 1048576) :
    Calls Tryz.prog 120 #[.iface 151 (.agg #[.slice A ns.length ca, .slice K lk kc])] w (BoolPost (ns.length = lk ∧ NmsP ns) w) := by
  have HBX := Lib.hid (below_box (w := w) (.cells #[.slice A ns.length ca, .slice K lk kc] 151))
  have HC := Lib.hid (areNames_any ns A ca _ (hr.keep HBX.out) hle hm hn)
  obtain ⟨Q, hQ⟩ : ∃ Q : Prop, Q ↔ ns.length = lk ∧ NmsP ns := ⟨_, Iff.rfl⟩
  rw [show (ns.length = lk ∧ NmsP ns) = Q from (propext hQ).symm]
  have HQ := Lib.hid hQ
  have x1 := as99_95
  have x2 := as99_96
  have x3 := as99
  clear hr hn hQ
  by_cases nl : ns.length = lk
  · have nl' : ((ns.length : Int) == (lk : Int)) = true := by rw [nl]; simp
    have NL := Lib.hid nl
    clear nl
    go_enter Tryz.func120, Tryz.ntmps120
    go_wp2_with fail
    refine HC.out.mono ?_
    rintro e w2 ⟨r, rfl, h1, hb2⟩
    have H1 := Lib.hid h1
    have hb := HBX.out.trans (hb2.mono HBX.out.size)
    clear h1 hb2
    go_wp2
    go_ret
    exact ⟨r, rfl, (H1.out.trans ⟨fun h => ⟨NL.out, h⟩, fun h => h.2⟩).trans HQ.out.symm, hb⟩
  · have nl' : ((ns.length : Int) == (lk : Int)) = false := by rw [beq_eq_false_iff_ne]; omega
    have HF : Hid (¬ Q) := fun h => nl (HQ.out.1 h).1
    have hb := HBX.out
    clear nl
    go_enter Tryz.func120, Tryz.ntmps120
    go_wp2
    go_ret
    exact ⟨false, rfl, iffF HF.out, hb⟩

set_option maxRecDepth 100000 in
set_option maxHeartbeats 1000000 in
theorem wf_93 (v : Value) (w : World) : Calls Tryz.prog 120 #[.iface 145 v] w (BoolPost True w) := by
  have x1 := as93_95
  have x2 := as93_96
  have x3 := as93_99
  go_enter Tryz.func120, Tryz.ntmps120
  go_wp2
  go_ret
  exact ⟨true, rfl, iffT trivial, Below.refl _ _⟩

set_option maxRecDepth 100000 in
set_option maxHeartbeats 1000000 in
theorem wf_94 (v : Value) (w : World) : Calls Tryz.prog 120 #[.iface 146 v] w (BoolPost True w) := by
  have x1 := as94_95
  have x2 := as94_96
  have x3 := as94_99
  go_enter Tryz.func120, Tryz.ntmps120
  go_wp2
  go_ret
  exact ⟨true, rfl, iffT trivial, Below.refl _ _⟩

set_option maxRecDepth 100000 in
set_option maxHeartbeats 1000000 in
theorem wf_97 (v : Value) (w : World) : Calls Tryz.prog 120 #[.iface 149 v] w (BoolPost True w) := by
  have x1 := as97_95
  have x2 := as97_96
  have x3 := as97_99
  go_enter Tryz.func120, Tryz.ntmps120
  go_wp2
  go_ret
  exact ⟨true, rfl, iffT trivial, Below.refl _ _⟩

theorem kids93 (w : World) : Calls Tryz.prog 205 #[.agg #[]] w fun e w' => e = .returned (.slice none 0 0) ∧ Below w.heap.size w w' := by
  go_enter Tryz.func205, Tryz.ntmps205
  go_wp2
  go_ret
  exact ⟨rfl, below_box _⟩

theorem kids94 (f : Bool) (w : World) : Calls Tryz.prog 206 #[.bool f] w fun e w' => e = .returned (.slice none 0 0) ∧ Below w.heap.size w w' := by
  go_enter Tryz.func206, Tryz.ntmps206
  go_wp2
  go_ret
  exact ⟨rfl, Below.refl _ _⟩

theorem kids95 (t : ByteArray) (w : World) : Calls Tryz.prog 207 #[.string t] w fun e w' => e = .returned (.slice none 0 0) ∧ Below w.heap.size w w' := by
  go_enter Tryz.func207, Tryz.ntmps207
  go_wp2
  go_ret
  exact ⟨rfl, Below.refl _ _⟩

theorem kids96 (t : ByteArray) (w : World) : Calls Tryz.prog 208 #[.string t] w fun e w' => e = .returned (.slice none 0 0) ∧ Below w.heap.size w w' := by
  go_enter Tryz.func208, Tryz.ntmps208
  go_wp2
  go_ret
  exact ⟨rfl, Below.refl _ _⟩

theorem kids97 (K : Option Addr) (n c : Nat) (w : World) : Calls Tryz.prog 209 #[.slice K n c] w fun e w' => e = .returned (.slice K n c) ∧ Below w.heap.size w w' := by
  go_enter Tryz.func209, Tryz.ntmps209
  go_wp2
  go_ret
  exact ⟨rfl, Below.refl _ _⟩

theorem kids99 (A : Value) (K : Option Addr) (n c : Nat) (w : World) : Calls Tryz.prog 210 #[.agg #[A, .slice K n c]] w fun e w' => e = .returned (.slice K n c) ∧ Below w.heap.size w w' := by
  go_enter Tryz.func210, Tryz.ntmps210
  go_wp2
  go_ret
  exact ⟨rfl, below_box _⟩

end Go.Proofs.YtkhcappjhefkjaaGreatDoor

