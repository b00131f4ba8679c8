/- The program's small functions on schemas: areShortTexts, hasBounds, isBare, isText .. isOne. (written by gen_f0.py) -/
import Derived.Test.YtkhcappjhefkjaaGreatDoorS6
import Derived.Test.YtkhcappjhefkjaaGreatDoorJ10
namespace Go.Proofs.YtkhcappjhefkjaaGreatDoor
open Go.RowKit Go.Shelf
set_option linter.unusedVariables false

set_option maxRecDepth 100000 in
set_option maxHeartbeats 1000000 in
theorem areShort_any (ns : List ByteArray) (A : Option Addr) (ca : Nat) (w : World) (hr : Row w A (strs ns)) (hle : ns.length ≤ ca) (hm : ns.length ≤ 1048576) (hn : ∀ n ∈ ns, n.size ≤ 1048576) :
    Calls Tryz.prog 143 #[.slice A ns.length ca] w (BoolPost (TxsTo ns ns.length) w) := by
  obtain ⟨Q, hQ⟩ : ∃ Q : Prop, Q ↔ TxsTo ns ns.length := ⟨_, Iff.rfl⟩
  rw [show TxsTo ns ns.length = Q from (propext hQ).symm]
  have HQ := Lib.hid hQ
  have HR := Lib.hid hr
  have HN := Lib.hid hn
  clear hQ hr hn
  go_enter Tryz.func143, Tryz.ntmps143
  go_wp2
  go_loopw [7] (fun i wr => ∃ j : Nat, j ≤ ns.length ∧ i = .int .i64 j ∧ Hid (TxsTo ns j) ∧ Below w.heap.size w wr) (fun i _ => ns.length - (intOf i).toNat)
  case atStart => exact ⟨0, Nat.zero_le _, rfl, fun u _ hu => by omega, Below.refl _ _⟩
  case round =>
    obtain ⟨j, hj, rfl, HU, hb⟩ := hrel
    by_cases hlt : j < ns.length
    · have hlt' : (j : Int) < (ns.length : Int) := by omega
      obtain ⟨b, off, rfl, hc⟩ := (HR.out.keep hb).str hlt
      have HRW : Hid (∀ w', Below w.heap.size w w' → ∀ k (hk : k < ns.length), w'.cell? ⟨b, off + k, none⟩ = some (.string ns[k])) := fun w' h k hk => by
        obtain ⟨b', off', e', hc'⟩ := (HR.out.keep h).str hk
        injection e' with e'; injection e' with e1 e2; subst e1 e2; exact hc'
      have HUJ : Hid ((WrdP ns[j] ∧ ∀ k (hk : k < j), ns[k] ≠ ns[j]) → TxsTo ns (j + 1)) := fun h1 u hu huj => by
        rcases Nat.lt_succ_iff_lt_or_eq.1 huj with h3 | h3
        · exact HU.out u hu h3
        · subst h3; exact h1
      have HNO : Hid (Q → WrdP ns[j] ∧ ∀ k (hk : k < j), ns[k] ≠ ns[j]) := fun h => HQ.out.1 h j hlt hlt
      have hsz := HN.out _ (List.getElem_mem hlt)
      generalize hsj : ns[j] = s at *
      by_cases h8 : 8 < s.size
      · have h8' : (8 : Int) < (s.size : Int) := by omega
        have HF : Hid (¬ Q) := fun h => by have := (HNO.out h).1.1; omega
        clear HNO HUJ h8
        go_wp2
        go_ret
        exact ⟨false, rfl, iffF HF.out, hb⟩
      have h8' : ¬ (8 : Int) < (s.size : Int) := by omega
      have H8 := Lib.hid h8
      clear h8
      have HC := Lib.hid (isQuotable_any s wr hsz)
      have HC2 : Hid (∀ w2, Below w.heap.size w w2 → Calls Tryz.prog 144 #[.slice (some ⟨b, off, none⟩) j ca, .string s] w2 fun e w' => ∃ r, e = .returned (.bool r) ∧ (r = true ↔ ∃ k, ∃ (h : k < ns.length), k < j ∧ ns[k] = s) ∧ w2 = w') := fun w2 h2 => contains_any b off j ca ns s w2 (by omega) hm (HRW.out w2 h2)
      have hjc : (j : Int) ≤ (ca : Int) := by omega
      clear hsj
      go_wp2_with fail
      refine HC.out.mono ?_
      rintro e w2 ⟨r, rfl, h1, hb2⟩
      have hb' := hb.trans (hb2.mono hb.size)
      have H1 := Lib.hid h1
      clear hb2 h1 HC hc hb
      cases r
      · go_wp2
        go_ret
        exact ⟨false, rfl, iffF (fun h => by have := H1.out.2 ⟨by have := H8.out; omega, (HNO.out h).1.2⟩; cases this), hb'⟩
      · go_wp2_with fail
        refine (HC2.out w2 hb').mono ?_
        rintro e w3 ⟨r, rfl, h2, rfl⟩
        have H2 := Lib.hid h2
        clear h2 HC2
        cases r
        · have HU3 : Hid (TxsTo ns (j + 1)) := HUJ.out ⟨⟨by have := H8.out; omega, (show QuoP s by first | exact H1.out.1 rfl | exact H1.out.1 trivial).2⟩, fun k hk e => by
            have := H2.out.2 ⟨k, by omega, hk, e⟩
            cases this⟩
          clear HU HUJ HNO H1 H2
          go_wp2
          go_roundw
          case rel => exact ⟨j + 1, by omega, by go_num, HU3, hb'⟩
          case measure => simp [intOf]; omega
        · have HF : Hid (¬ Q) := fun h => by
            obtain ⟨k, hk, hkj, e⟩ := (show (∃ k, ∃ (h : k < ns.length), k < j ∧ ns[k] = s) by first | exact H2.out.1 rfl | exact H2.out.1 trivial)
            exact (HNO.out h).2 k hkj e
          clear HU HUJ HNO H1 H2
          go_wp2
          go_ret
          exact ⟨false, rfl, iffF HF.out, hb'⟩
    · have hlt' : ¬ (j : Int) < (ns.length : Int) := by omega
      obtain rfl : j = ns.length := by omega
      have HT : Hid Q := HQ.out.2 HU.out
      go_wp2
      go_ret
      exact ⟨true, rfl, iffT HT.out, hb⟩

set_option maxRecDepth 100000 in
set_option maxHeartbeats 1000000 in
theorem bare_any (k mn mx : Int) (A M K : Option Addr) (la ca lm ma lk kc : Nat) (w : World) (hla : la ≤ 1048576) (hlm : lm ≤ 1048576) (hlk : lk ≤ 1048576) :
    Calls Tryz.prog 89 #[.agg #[.int .i64 k, .int .i64 mn, .int .i64 mx, .slice A la ca, .slice M lm ma, .slice K lk kc]] w (BoolPost (mn = 0 ∧ mx = 0 ∧ la = 0 ∧ lm = 0 ∧ lk = 0) w) := by
  obtain ⟨Q, hQ⟩ : ∃ Q : Prop, Q ↔ (mn = 0 ∧ mx = 0 ∧ la = 0 ∧ lm = 0 ∧ lk = 0) := ⟨_, Iff.rfl⟩
  rw [show (mn = 0 ∧ mx = 0 ∧ la = 0 ∧ lm = 0 ∧ lk = 0) = Q from (propext hQ).symm]
  have HQ := Lib.hid hQ
  clear hQ
  by_cases m0 : mn = 0
  · by_cases x0 : mx = 0
    · subst m0 x0
      go_enter Tryz.func89, Tryz.ntmps89
      go_wp2
      go_ret
      refine ⟨_, rfl, ?_, below_box _⟩
      rw [HQ.out, beq_iff_eq]
      constructor
      · intro h; refine ⟨?_, ?_, by omega, by omega, by omega⟩ <;> trivial
      · intro h; omega
    · have e1 : (mx == 0) = false := by simp [x0]
      have HF : Hid (¬ Q) := fun h => x0 (HQ.out.1 h).2.1
      subst m0
      clear x0
      go_enter Tryz.func89, Tryz.ntmps89
      go_wp2
      go_ret
      exact ⟨false, rfl, iffF HF.out, below_box _⟩
  · have e1 : (mn == 0) = false := by simp [m0]
    have HF : Hid (¬ Q) := fun h => m0 (HQ.out.1 h).1
    clear m0
    go_enter Tryz.func89, Tryz.ntmps89
    go_wp2
    go_ret
    exact ⟨false, rfl, iffF HF.out, below_box _⟩

set_option maxRecDepth 100000 in
set_option maxHeartbeats 1000000 in
theorem bounds_any (k mn mx : Int) (A M K : Option Addr) (la ca lm ma lk kc : Nat) (w : World) (hla : la ≤ 1048576) (hlm : lm ≤ 1048576) (hlk : lk ≤ 1048576) :
    Calls Tryz.prog 131 #[.agg #[.int .i64 k, .int .i64 mn, .int .i64 mx, .slice A la ca, .slice M lm ma, .slice K lk kc]] w (BoolPost (SpanP mn mx) w) := by
  by_cases h1 : 0 ≤ mn
  · by_cases h2 : mn ≤ mx
    · by_cases h3 : mx ≤ 6
      · have HT : Hid (SpanP mn mx) := ⟨h1, h2, h3⟩
        go_enter Tryz.func131, Tryz.ntmps131
        go_wp2
        go_ret
        exact ⟨true, rfl, iffT HT.out, below_box _⟩
      · have HF : Hid (¬ SpanP mn mx) := fun h => h3 h.2.2
        go_enter Tryz.func131, Tryz.ntmps131
        go_wp2
        go_ret
        exact ⟨false, rfl, iffF HF.out, below_box _⟩
    · have HF : Hid (¬ SpanP mn mx) := fun h => h2 h.2.1
      go_enter Tryz.func131, Tryz.ntmps131
      go_wp2
      go_ret
      exact ⟨false, rfl, iffF HF.out, below_box _⟩
  · have HF : Hid (¬ SpanP mn mx) := fun h => h1 h.1
    go_enter Tryz.func131, Tryz.ntmps131
    go_wp2
    go_ret
    exact ⟨false, rfl, iffF HF.out, below_box _⟩

end Go.Proofs.YtkhcappjhefkjaaGreatDoor

