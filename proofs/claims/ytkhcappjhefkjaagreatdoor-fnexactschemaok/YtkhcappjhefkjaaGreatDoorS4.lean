/- Schemas, plain: what is asked of them; l32Texts. (written by gen_s4.py) -/
import Derived.Test.YtkhcappjhefkjaaGreatDoorS1
import Derived.Test.YtkhcappjhefkjaaGreatDoorJ5
namespace Go.Proofs.YtkhcappjhefkjaaGreatDoor
open Go.RowKit
set_option linter.unusedVariables false

/-- One of the texts of a schema: at most 8 bytes, plain. -/
def WrdP (t : ByteArray) : Prop := t.size ≤ 8 ∧ ∀ b ∈ bl t, plainB [34] b = true
def TxsTo (ns : List ByteArray) (j : Nat) : Prop := ∀ i (h : i < ns.length), i < j → WrdP ns[i] ∧ ∀ k (hk : k < i), ns[k] ≠ ns[i]
def TxsP (ns : List ByteArray) : Prop := 1 ≤ ns.length ∧ ns.length ≤ 4 ∧ TxsTo ns ns.length
def SpanP (mn mx : Int) : Prop := 0 ≤ mn ∧ mn ≤ mx ∧ mx ≤ 6

/-- One schema has just the fields of its kind, and they are as they should be. -/
def SoneP (k mn mx : Int) (ns : List ByteArray) (ms : List Bool) (kids : List Sc) : Prop :=
  ((k = 1 ∨ k = 2 ∨ k = 3) ∧ mn = 0 ∧ mx = 0 ∧ ns.length = 0 ∧ ms.length = 0 ∧ kids.length = 0) ∨
  (k = 4 ∧ SpanP mn mx ∧ ns.length = 0 ∧ ms.length = 0 ∧ kids.length = 0) ∨
  (k = 5 ∧ SpanP mn mx ∧ ns.length = 0 ∧ ms.length = 0 ∧ kids.length = 1) ∨
  (k = 6 ∧ mn = 0 ∧ mx = 0 ∧ ns.length = kids.length ∧ ms.length = kids.length ∧ NmsP ns) ∨
  (k = 7 ∧ mn = 0 ∧ mx = 0 ∧ ns.length = 0 ∧ ms.length = 0 ∧ 2 ≤ kids.length) ∨
  (k = 8 ∧ mn = 0 ∧ mx = 0 ∧ ms.length = 0 ∧ kids.length = 0 ∧ TxsP ns)
inductive SokP : Sc → Prop
  | mk (k mn mx : Int) (ns : List ByteArray) (ms : List Bool) (kids : List Sc) : SoneP k mn mx ns ms kids → (∀ p ∈ kids, SokP p) → SokP (.mk k mn mx ns ms kids)
theorem SokP.one {k mn mx : Int} {ns : List ByteArray} {ms : List Bool} {kids : List Sc} (h : SokP (.mk k mn mx ns ms kids)) : SoneP k mn mx ns ms kids := by cases h; assumption
theorem SokP.kids {k mn mx : Int} {ns : List ByteArray} {ms : List Bool} {kids : List Sc} (h : SokP (.mk k mn mx ns ms kids)) : ∀ p ∈ kids, SokP p := by cases h; assumption
theorem sok_iff {k mn mx : Int} {ns : List ByteArray} {ms : List Bool} {kids : List Sc} : SokP (.mk k mn mx ns ms kids) ↔ SoneP k mn mx ns ms kids ∧ ∀ p ∈ kids, SokP p :=
  ⟨fun h => ⟨h.one, h.kids⟩, fun ⟨h1, h2⟩ => .mk k mn mx ns ms kids h1 h2⟩

mutual
/-- How many schemas there are. -/
def Sc.nodes : Sc → Nat
  | .mk _ _ _ _ _ kids => nodesS kids + 1
def nodesS : List Sc → Nat
  | [] => 0
  | p :: r => p.nodes + nodesS r
end
theorem nodesS_mk {k mn mx : Int} {ns : List ByteArray} {ms : List Bool} {kids : List Sc} : (Sc.mk k mn mx ns ms kids).nodes = nodesS kids + 1 := by rw [Sc.nodes]
theorem nodesS_append (a b : List Sc) : nodesS (a ++ b) = nodesS a + nodesS b := by
  induction a with
  | nil => simp [nodesS]
  | cons p r ih => simp [nodesS, ih]; omega
theorem nodesS_take {kids : List Sc} {j : Nat} (h : j < kids.length) : nodesS (kids.take (j + 1)) = nodesS (kids.take j) + kids[j].nodes := by
  rw [List.take_succ_eq_append_getElem h, nodesS_append]
  simp [nodesS]
theorem nodesS_le (kids : List Sc) (j : Nat) : nodesS (kids.take j) ≤ nodesS kids := by
  have : nodesS kids = nodesS (kids.take j) + nodesS (kids.drop j) := by rw [← nodesS_append, List.take_append_drop]
  omega
theorem snodes_pos (p : Sc) : 1 ≤ p.nodes := by cases p; rw [nodesS_mk]; omega
theorem nodesS_len (kids : List Sc) : kids.length ≤ nodesS kids := by
  induction kids with
  | nil => simp [nodesS]
  | cons p r ih => have := snodes_pos p; simp only [nodesS, List.length_cons]; omega
theorem nodesS_mem {p : Sc} : ∀ {kids : List Sc}, p ∈ kids → p.nodes ≤ nodesS kids
  | q :: r, h => by
    unfold nodesS
    rcases List.mem_cons.1 h with rfl | h
    · omega
    · have := nodesS_mem h; omega
/-- No schema has too many kids. -/
inductive NarS : Sc → Prop
  | mk (k mn mx : Int) (ns : List ByteArray) (ms : List Bool) (kids : List Sc) : kids.length ≤ 4 → (∀ p ∈ kids, NarS p) → NarS (.mk k mn mx ns ms kids)
theorem nars_iff {k mn mx : Int} {ns : List ByteArray} {ms : List Bool} {kids : List Sc} : NarS (.mk k mn mx ns ms kids) ↔ kids.length ≤ 4 ∧ ∀ p ∈ kids, NarS p :=
  ⟨fun h => by cases h with | mk _ _ _ _ _ _ h1 h2 => exact ⟨h1, h2⟩, fun ⟨h1, h2⟩ => .mk _ _ _ _ _ _ h1 h2⟩
/-- A schema is ok. -/
def SchemaP (p : Sc) : Prop := p.ht ≤ 4 ∧ NarS p ∧ p.nodes ≤ 10 ∧ SokP p

set_option maxRecDepth 100000 in
set_option maxHeartbeats 1000000 in
theorem l32Texts_any (ns : List ByteArray) (A : Option Addr) (ca : Nat) (w : World) (hr : Row w A (strs ns)) (hm : ns.length ≤ 1048576) (hn : ∀ n ∈ ns, n.size ≤ 1048576) :
    Calls Tryz.prog 72 #[.slice A ns.length ca] w (BoolPost (TxsP ns) w) := by
  by_cases hl0 : ns.length < 1
  · have hl0' : (ns.length : Int) < 1 := by omega
    go_enter Tryz.func72, Tryz.ntmps72
    go_wp2
    go_ret
    exact ⟨false, rfl, iffF (fun h => by have := h.1; omega), Below.refl _ _⟩
  by_cases hl4 : 4 < ns.length
  · have hl4' : (4 : Int) < (ns.length : Int) := by omega
    have hl0' : ¬ (ns.length : Int) < 1 := by omega
    go_enter Tryz.func72, Tryz.ntmps72
    go_wp2
    go_ret
    exact ⟨false, rfl, iffF (fun h => by have := h.2.1; omega), Below.refl _ _⟩
  have hl0' : ¬ (ns.length : Int) < 1 := by omega
  have hl4' : ¬ (4 : Int) < (ns.length : Int) := by omega
  obtain ⟨Q, hQ⟩ : ∃ Q : Prop, Q ↔ TxsTo ns ns.length := ⟨_, Iff.rfl⟩
  rw [show TxsP ns = Q from propext (⟨fun h => hQ.2 h.2.2, fun h => ⟨by omega, by omega, hQ.1 h⟩⟩)]
  have HQ := Lib.hid hQ
  have HR := Lib.hid hr
  have HN := Lib.hid hn
  clear hQ hr hn
  go_enter Tryz.func72, Tryz.ntmps72
  go_wp2
  go_loopw [3, 4] (fun i _ wr => ∃ j : Nat, j ≤ ns.length ∧ i = .int .i64 j ∧ Hid (TxsTo ns j) ∧ Below w.heap.size w wr) (fun i _ _ => ns.length - (intOf i).toNat)
  case atStart => exact ⟨0, Nat.zero_le _, rfl, fun u _ hu => by omega, Below.refl _ _⟩
  case round =>
    obtain ⟨j, hj, rfl, HU, hb⟩ := hrel
    by_cases hlt : j < ns.length
    · have hlt' : (j : Int) < (ns.length : Int) := by omega
      obtain ⟨b, off, rfl, hc⟩ := (HR.out.keep hb).str hlt
      have HRW : Hid (∀ w', Below w.heap.size w w' → ∀ k (hk : k < ns.length), w'.cell? ⟨b, off + k, none⟩ = some (.string ns[k])) := fun w' h k hk => by
        obtain ⟨b', off', e', hc'⟩ := (HR.out.keep h).str hk
        injection e' with e'; injection e' with e1 e2; subst e1 e2; exact hc'
      have HUJ : Hid ((WrdP ns[j] ∧ ∀ k (hk : k < j), ns[k] ≠ ns[j]) → TxsTo ns (j + 1)) := fun h1 u hu huj => by
        rcases Nat.lt_succ_iff_lt_or_eq.1 huj with h3 | h3
        · exact HU.out u hu h3
        · subst h3; exact h1
      have HNO : Hid (Q → WrdP ns[j] ∧ ∀ k (hk : k < j), ns[k] ≠ ns[j]) := fun h => HQ.out.1 h j hlt hlt
      have HSJ : Hid (∀ w', Below w.heap.size w w' → w'.cell? ⟨b, off + j, none⟩ = some (.string ns[j])) := fun w' h => HRW.out w' h j hlt
      have hsz := HN.out _ (List.getElem_mem hlt)
      have HNK : Hid (∀ k (hk : k < j) (h : k < ns.length), ns[k] = ns[k]) := fun k hk h => rfl
      generalize hsj : ns[j] = s at *
      by_cases h8 : 8 < s.size
      · have h8' : (8 : Int) < (s.size : Int) := by omega
        have HF : Hid (¬ Q) := fun h => by have := (HNO.out h).1.1; omega
        clear HNO HUJ h8
        go_wp2
        go_ret
        exact ⟨false, rfl, iffF HF.out, hb⟩
      have h8' : ¬ (8 : Int) < (s.size : Int) := by omega
      have H8 := Lib.hid h8
      clear h8
      have HC := Lib.hid (l31Text_any s wr hsz)
      go_wp2_with fail
      refine HC.out.mono ?_
      rintro e w2 ⟨r, rfl, h1, hb2⟩
      have hb' := hb.trans (hb2.mono hb.size)
      have H1 := Lib.hid h1
      clear hb2 h1 HC hc hb
      cases r
      · go_wp2
        go_ret
        exact ⟨false, rfl, iffF (fun h => by have := H1.out.2 (HNO.out h).1.2; cases this), hb'⟩
      · go_wp2
        go_loopw [4] (fun i wr => ∃ k : Nat, k ≤ j ∧ i = .int .i64 k ∧ Hid (∀ u (h : u < ns.length), u < k → ns[u] ≠ s) ∧ Below w.heap.size w wr) (fun i _ => j - (intOf i).toNat)
        case atStart => exact ⟨0, Nat.zero_le _, rfl, fun u _ hu => by omega, hb'⟩
        case round =>
          clear hb'
          obtain ⟨k, hk, rfl, HV, hb⟩ := hrel
          by_cases hlt2 : k < j
          · have hlt2' : (k : Int) < (j : Int) := by omega
            have hkn : k < ns.length := by omega
            have hkn' : (k : Int) < (ns.length : Int) := by omega
            have c1 := HRW.out wr hb k hkn
            have c2 := HSJ.out wr hb
            have HV2 : Hid (ns[k] ≠ s → ∀ u (h : u < ns.length), u < k + 1 → ns[u] ≠ s) := fun h1 u hu huj => by
              rcases Nat.lt_succ_iff_lt_or_eq.1 huj with h3 | h3
              · exact HV.out u hu h3
              · subst h3; exact h1
            have HNO2 : Hid (Q → ns[k] ≠ s) := fun h => (HNO.out h).2 k hlt2
            generalize ns[k] = q at *
            by_cases g : q = s
            · have g' : (q.toList == s.toList) = true := by rw [g]; simp
              have HF : Hid (¬ Q) := fun h => HNO2.out h g
              clear g HV HV2 HNO2
              go_wp2
              go_quiet (fail)
              go_wp2
              go_ret
              exact ⟨false, rfl, iffF HF.out, below_drewN hb _⟩
            · have g' : (q.toList == s.toList) = false := str_ne g
              have HV3 := Lib.hid (HV2.out g)
              clear g HV HV2 HNO2
              go_wp2
              go_quiet (fail)
              go_wp2
              go_roundw
              case rel => exact ⟨k + 1, by omega, by go_num, HV3, below_drewN hb _⟩
              case measure => simp [intOf]; omega
          · have hlt2' : ¬ (k : Int) < (j : Int) := by omega
            have HU3 : Hid (TxsTo ns (j + 1)) := HUJ.out ⟨⟨by have := H8.out; omega, (by first | exact H1.out.1 rfl | exact H1.out.1 trivial)⟩, fun u hu => HV.out u (by omega) (by omega)⟩
            go_wp2
            go_roundw
            case rel => exact ⟨j + 1, by omega, by go_num, HU3, hb⟩
            case measure => simp [intOf]; omega
    · have hlt' : ¬ (j : Int) < (ns.length : Int) := by omega
      obtain rfl : j = ns.length := by omega
      have HT : Hid Q := HQ.out.2 HU.out
      go_wp2
      go_ret
      exact ⟨true, rfl, iffT HT.out, hb⟩

end Go.Proofs.YtkhcappjhefkjaaGreatDoor
