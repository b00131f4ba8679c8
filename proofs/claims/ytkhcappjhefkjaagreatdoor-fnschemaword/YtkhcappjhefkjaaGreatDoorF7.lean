/- The program's check of a schema: all kinds; SchemaOk. (written by gen_f4.py) -/
import Derived.Test.YtkhcappjhefkjaaGreatDoorF5
import Derived.Test.YtkhcappjhefkjaaGreatDoorF6
namespace Go.Proofs.YtkhcappjhefkjaaGreatDoor
open Go.RowKit
set_option linter.unusedVariables false

theorem fits0 : FitSP 0 := by
  intro k mn mx ns ms kids A M KA ca ma kc B0 g L dp w0 w hv hl hle hb hg ho h0 h1 hdp
  exact fitSNot k mn mx ns ms kids A M KA ca ma kc B0 g L dp w0 w hv hl hle hb hg ho h0 h1 (by omega) (by omega) _ (fun h => by have := h.1; omega) (.inr (.inr (by omega)))
theorem fitsS {d : Nat} (IH : FitSP d) (hd : d ≤ 3) : FitSP (d + 1) := by
  intro k mn mx ns ms kids A M KA ca ma kc B0 g L dp w0 w hv hl hle hb hg ho h0 h1 hdp
  by_cases k1 : k = 1
  · subst k1; exact fitSK1 IH hd mn mx ns ms kids A M KA ca ma kc B0 g L dp w0 w hv hl hle hb hg ho h0 h1 (by omega)
  by_cases k2 : k = 2
  · subst k2; exact fitSK2 IH hd mn mx ns ms kids A M KA ca ma kc B0 g L dp w0 w hv hl hle hb hg ho h0 h1 (by omega)
  by_cases k3 : k = 3
  · subst k3; exact fitSK3 IH hd mn mx ns ms kids A M KA ca ma kc B0 g L dp w0 w hv hl hle hb hg ho h0 h1 (by omega)
  by_cases k4 : k = 4
  · subst k4; exact fitSK4 IH hd mn mx ns ms kids A M KA ca ma kc B0 g L dp w0 w hv hl hle hb hg ho h0 h1 (by omega)
  by_cases k5 : k = 5
  · subst k5; exact fitSK5 IH hd mn mx ns ms kids A M KA ca ma kc B0 g L dp w0 w hv hl hle hb hg ho h0 h1 (by omega)
  by_cases k6 : k = 6
  · subst k6; exact fitSK6 IH hd mn mx ns ms kids A M KA ca ma kc B0 g L dp w0 w hv hl hle hb hg ho h0 h1 (by omega)
  by_cases k7 : k = 7
  · subst k7; exact fitSK7 IH hd mn mx ns ms kids A M KA ca ma kc B0 g L dp w0 w hv hl hle hb hg ho h0 h1 (by omega)
  by_cases k8 : k = 8
  · subst k8; exact fitSK8 IH hd mn mx ns ms kids A M KA ca ma kc B0 g L dp w0 w hv hl hle hb hg ho h0 h1 (by omega)
  exact fitSNot k mn mx ns ms kids A M KA ca ma kc B0 g L dp w0 w hv hl hle hb hg ho h0 h1 (by omega) (by omega) _ (fun h => by
    have h := (skp_iff.1 h.2).1.1
    unfold SoneP at h
    rcases h with h | h | h | h | h | h <;> omega) (by omega)
theorem fits_all : ∀ d, d ≤ 4 → FitSP d
  | 0, _ => fits0
  | d + 1, h => fitsS (fits_all d (by omega)) (by omega)

set_option maxRecDepth 100000 in
set_option maxHeartbeats 2000000 in
theorem implSchemaOk_any (k mn mx : Int) (ns : List ByteArray) (ms : List Bool) (kids : List Sc) (A M KA : Option Addr) (ca ma kc B0 : Nat) (w : World) (hv : ScV w B0 ns ms kids A M KA) (hl : LimS 1048576 (.mk k mn mx ns ms kids)) (hle : ns.length ≤ ca) :
    Calls Tryz.prog 18 #[.agg #[.int .i64 k, .int .i64 mn, .int .i64 mx, .slice A ns.length ca, .slice M ms.length ma, .slice KA kids.length kc]] w (BoolPost (SchemaP (.mk k mn mx ns ms kids)) w) := by
  have HV := Lib.hid hv
  have HL := Lib.hid hl
  have HLE := Lib.hid hle
  obtain ⟨Q, hQ⟩ : ∃ Q : Prop, Q ↔ SchemaP (.mk k mn mx ns ms kids) := ⟨_, Iff.rfl⟩
  rw [show SchemaP (.mk k mn mx ns ms kids) = Q from (propext hQ).symm]
  have HQ := Lib.hid hQ
  clear hv hl hle hQ
  go_enter Tryz.func18, Tryz.ntmps18
  go_wp2_with fail
  refine gen_w (P := fun X => Calls Tryz.prog 42 _ X _) (fun W hW => ?_)
  have HB : Below w.heap.size w W := by
    rw [hW]; exact (below_box _).alloc (by simp) _
  have HO : Own W (w.heap.size + 1) 64 [.int .i64 10] := by
    rw [hW]
    have := Own.new (w.alloc (.cells #[.int .i64 k, .int .i64 mn, .int .i64 mx, .slice A ns.length ca, .slice M ms.length ma, .slice KA kids.length kc] 31)) 64 #[.int .i64 10]
    rw [World.size_alloc] at this
    exact this
  clear hW
  refine (fits_all 4 (Nat.le_refl _) k mn mx ns ms kids A M KA ca ma kc B0 (w.heap.size + 1) 10 1 w W HV.out HL.out HLE.out HB (by omega) HO (by omega) (by omega) (by omega)).mono ?_
  rintro e w2 ⟨r, L', rfl, hr, _, _, hx⟩
  have HB2 := Lib.hid (hx.base HB (by omega))
  have HR : Hid (r = true ↔ Q) := by
    show _ ↔ _
    rw [hr, HQ.out]
    unfold SchemaP SkP
    rw [htS_mk, nodesS_mk]
    constructor
    · rintro ⟨⟨a, b, c⟩, d⟩; exact ⟨a, c, by omega, b⟩
    · rintro ⟨a, b, c, d⟩; exact ⟨⟨a, d, b⟩, by omega⟩
  clear hr hx HB HO
  simp only [Bool.false_eq_true, if_false]
  go_wp2
  go_ret
  exact ⟨r, rfl, HR.out, HB2.out⟩

end Go.Proofs.YtkhcappjhefkjaaGreatDoor

