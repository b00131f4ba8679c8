/- Schemas, plain: what is asked of them; l32Texts. (written by gen_s4.py) -/
import Derived.Test.YtkhcappjhefkjaaGreatDoorS1
import Derived.Test.YtkhcappjhefkjaaGreatDoorJ5
namespace Go.Proofs.YtkhcappjhefkjaaGreatDoor
open Go.RowKit
set_option linter.unusedVariables false

/-- One of the texts of a schema: at most 8 bytes, plain. -/
def WrdP (t : ByteArray) : Prop := t.size ≤ 8 ∧ ∀ b ∈ bl t, plainB [34] b = true
def TxsTo (ns : List ByteArray) (j : Nat) : Prop := ∀ i (h : i < ns.length), i < j → WrdP ns[i] ∧ ∀ k (hk : k < i), ns[k] ≠ ns[i]
def TxsP (ns : List ByteArray) : Prop := 1 ≤ ns.length ∧ ns.length ≤ 4 ∧ TxsTo ns ns.length
def SpanP (mn mx : Int) : Prop := 0 ≤ mn ∧ mn ≤ mx ∧ mx ≤ 6

/-- One schema has just the fields of its kind, and they are as they should be. -/
def SoneP (k mn mx : Int) (ns : List ByteArray) (ms : List Bool) (kids : List Sc) : Prop :=
  ((k = 1 ∨ k = 2 ∨ k = 3) ∧ mn = 0 ∧ mx = 0 ∧ ns.length = 0 ∧ ms.length = 0 ∧ kids.length = 0) ∨
  (k = 4 ∧ SpanP mn mx ∧ ns.length = 0 ∧ ms.length = 0 ∧ kids.length = 0) ∨
  (k = 5 ∧ SpanP mn mx ∧ ns.length = 0 ∧ ms.length = 0 ∧ kids.length = 1) ∨
  (k = 6 ∧ mn = 0 ∧ mx = 0 ∧ ns.length = kids.length ∧ ms.length = kids.length ∧ NmsP ns) ∨
  (k = 7 ∧ mn = 0 ∧ mx = 0 ∧ ns.length = 0 ∧ ms.length = 0 ∧ 2 ≤ kids.length) ∨
  (k = 8 ∧ mn = 0 ∧ mx = 0 ∧ ms.length = 0 ∧ kids.length = 0 ∧ TxsP ns)
inductive SokP : Sc → Prop
  | mk (k mn mx : Int) (ns : List ByteArray) (ms : List Bool) (kids : List Sc) : SoneP k mn mx ns ms kids → (∀ p ∈ kids, SokP p) → SokP (.mk k mn mx ns ms kids)
theorem SokP.one {k mn mx : Int} {ns : List ByteArray} {ms : List Bool} {kids : List Sc} (h : SokP (.mk k mn mx ns ms kids)) : SoneP k mn mx ns ms kids := by cases h; assumption
theorem SokP.kids {k mn mx : Int} {ns : List ByteArray} {ms : List Bool} {kids : List Sc} (h : SokP (.mk k mn mx ns ms kids)) : ∀ p ∈ kids, SokP p := by cases h; assumption
theorem sok_iff {k mn mx : Int} {ns : List ByteArray} {ms : List Bool} {kids : List Sc} : SokP (.mk k mn mx ns ms kids) ↔ SoneP k mn mx ns ms kids ∧ ∀ p ∈ kids, SokP p :=
  ⟨fun h => ⟨h.one, h.kids⟩, fun ⟨h1, h2⟩ => .mk k mn mx ns ms kids h1 h2⟩

mutual
/-- How many schemas there are. -/
def Sc.nodes : Sc → Nat
  | .mk _ _ _ _ _ kids => nodesS kids + 1
def nodesS : List Sc → Nat
  | [] => 0
  | p :: r => p.nodes + nodesS r
end
theorem nodesS_mk {k mn mx : Int} {ns : List ByteArray} {ms : List Bool} {kids : List Sc} : (Sc.mk k mn mx ns ms kids).nodes = nodesS kids + 1 := by rw [Sc.nodes]
theorem nodesS_append (a b : List Sc) : nodesS (a ++ b) = nodesS a + nodesS b := by
  induction a with
  | nil => simp [nodesS]
  | cons p r ih => simp [nodesS, ih]; omega
theorem nodesS_take {kids : List Sc} {j : Nat} (h : j < kids.length) : nodesS (kids.take (j + 1)) = nodesS (kids.take j) + kids[j].nodes := by
  rw [List.take_succ_eq_append_getElem h, nodesS_append]
  simp [nodesS]
theorem nodesS_le (kids : List Sc) (j : Nat) : nodesS (kids.take j) ≤ nodesS kids := by
  have : nodesS kids = nodesS (kids.take j) + nodesS (kids.drop j) := by rw [← nodesS_append, List.take_append_drop]
  omega
theorem snodes_pos (p : Sc) : 1 ≤ p.nodes := by cases p; rw [nodesS_mk]; omega
theorem nodesS_len (kids : List Sc) : kids.length ≤ nodesS kids := by
  induction kids with
  | nil => simp [nodesS]
  | cons p r ih => have := snodes_pos p; simp only [nodesS, List.length_cons]; omega
theorem nodesS_mem {p : Sc} : ∀ {kids : List Sc}, p ∈ kids → p.nodes ≤ nodesS kids
  | q :: r, h => by
    unfold nodesS
    rcases List.mem_cons.1 h with rfl | h
    · omega
    · have := nodesS_mem h; omega
/-- No schema has too many kids. -/
inductive NarS : Sc → Prop
  | mk (k mn mx : Int) (ns : List ByteArray) (ms : List Bool) (kids : List Sc) : kids.length ≤ 4 → (∀ p ∈ kids, NarS p) → NarS (.mk k mn mx ns ms kids)
theorem nars_iff {k mn mx : Int} {ns : List ByteArray} {ms : List Bool} {kids : List Sc} : NarS (.mk k mn mx ns ms kids) ↔ kids.length ≤ 4 ∧ ∀ p ∈ kids, NarS p :=
  ⟨fun h => by cases h with | mk _ _ _ _ _ _ h1 h2 => exact ⟨h1, h2⟩, fun ⟨h1, h2⟩ => .mk _ _ _ _ _ _ h1 h2⟩
/-- A schema is ok. -/
def SchemaP (p : Sc) : Prop := p.ht ≤ 4 ∧ NarS p ∧ p.nodes ≤ 10 ∧ SokP p

set_option maxRecDepth 100000 in
set_option maxHeartbeats 1000000 in
theorem l32Texts_any (ns : List ByteArray) (A : Option Addr) (ca : Nat) (w : World) (hr : Row w A (strs ns)) (hm : ns.length ≤ 1048576) (hn : ∀ n ∈ ns, n.size ≤ 1048576) :
    Calls Tryz.prog 72 #[.slice A ns.length ca] w (BoolPost (TxsP ns) w) := by
  by_cases hl0 : ns.length < 1
  · have hl0' : (ns.length : Int) < 1 := by omega
    go_enter Tryz.func72, Tryz.ntmps72
    go_wp2
    go_ret
    exact ⟨false, rfl, iffF (fun h => by have := h.1; omega), Below.refl _ _⟩
  by_cases hl4 : 4 < ns.length
  · have hl4' : (4 : Int) < (ns.length : Int) := by omega
    have hl0' : ¬ (ns.length : Int) < 1 := by omega
    go_enter Tryz.func72, Tryz.ntmps72
    go_wp2
    go_ret
    exact ⟨false, rfl, iffF (fun h => by have := h.2.1; omega), Below.refl _ _⟩
  have hl0' : ¬ (ns.length : Int) < 1 := by omega
  have hl4' : ¬ (4 : Int) < (ns.length : Int) := by omega
  obtain ⟨Q, hQ⟩ : ∃ Q : Prop, Q ↔ TxsTo ns ns.length := ⟨_, Iff.rfl⟩
  rw [show TxsP ns = Q from propext (⟨fun h => hQ.2 h.2.2, fun h => ⟨by omega, by omega, hQ.1 h⟩⟩)]
  have HQ := Lib.hid hQ
  have HR := Lib.hid hr
  have HN := Lib.hid hn
  clear hQ hr hn
  go_enter Tryz.func72, Tryz.ntmps72
  go_wp2
  go_loopw [3, 4] (fun i _ wr => ∃ j : Nat, j ≤ ns.length ∧ i = .int .i64 j ∧ Hid (TxsTo ns j) ∧ Below w.heap.size w wr) (fun i _ _ => ns.length - (intOf i).toNat)
  case atStart => exact ⟨0, Nat.zero_le _, rfl, fun u _ hu => by omega, Below.refl _ _⟩
  case round =>
    obtain ⟨j, hj, rfl, HU, hb⟩ := hrel
    by_cases hlt : j < ns.length
    · have hlt' : (j : Int) < (ns.length : Int) := by omega
      obtain ⟨b, off, rfl, hc⟩ := (HR.out.keep hb).str hlt
      have HRW : Hid (∀ w', Below w.heap.size w w' → ∀ k (hk : k < ns.length), w'.cell? ⟨b, off + k, none⟩ = some (.string ns[k])) := fun w' h k hk => by
        obtain ⟨b', off', e', hc'⟩ := (HR.out.keep h).str hk
        injection e' with e'; injection e' with e1 e2; subst e1 e2; exact hc'
      have HUJ : Hid ((WrdP ns[j] ∧ ∀ k (hk : k < j), ns[k] ≠ ns[j]) → TxsTo ns (j + 1)) := fun h1 u hu huj => by
        rcases Nat.lt_succ_iff_lt_or_eq.1 huj with h3 | h3
        · exact HU.out u hu h3
        · subst h3; exact h1
      have HNO : Hid (Q → WrdP ns[j] ∧ ∀ k (hk : k < j), ns[k] ≠ ns[j]) := fun h => HQ.out.1 h j hlt hlt
      have HSJ : Hid (∀ w', Below w.heap.size w w' → w'.cell? ⟨b, off + j, none⟩ = some (.string ns[j])) := fun w' h => HRW.out w' h j hlt
      have hsz := HN.out _ (List.getElem_mem hlt)
      have HNK : Hid (∀ k (hk : k < j) (h : k < ns.length), ns[k] = ns[k]) := fun k hk h => rfl
      generalize hsj : ns[j] = s at *
      by_cases h8 : 8 < s.size
      · have h8' : (8 : Int) < (s.size : Int) := by omega
        have HF : Hid (¬ Q) := fun h => by have := (HNO.out h).1.1; omega
        clear HNO HUJ h8
        go_wp2
        go_ret
        exact ⟨false, rfl, iffF HF.out, hb⟩
      have h8' : ¬ (8 : Int) < (s.size : Int) := by omega
      have H8 := Lib.hid h8
      clear h8
      have HC := Lib.hid (l31Text_any s wr hsz)
      go_wp2_with fail
      refine HC.out.mono ?_
      rintro e w2 ⟨r, rfl, h1, hb2⟩
      have hb' := hb.trans (hb2.mono hb.size)
      have H1 := Lib.hid h1
      clear hb2 h1 HC hc hb
      cases r
      · go_wp2
        go_ret
        exact ⟨false, rfl, iffF (fun h => by have := H1.out.2 (HNO.out h).1.2; cases this), hb'⟩
      · go_wp2
        go_loopw [4] (fun i wr => ∃ k : Nat, k ≤ j ∧ i = .int .i64 k ∧ Hid (∀ u (h : u < ns.length), u < k → ns[u] ≠ s) ∧ Below w.heap.size w wr) (fun i _ => j - (intOf i).toNat)
        case atStart => exact ⟨0, Nat.zero_le _, rfl, fun u _ hu => by omega, hb'⟩
        case round =>
          clear hb'
          obtain ⟨k, hk, rfl, HV, hb⟩ := hrel
          by_cases hlt2 : k < j
          · have hlt2' : (k : Int) < (j : Int) := by omega
            have hkn : k < ns.length := by omega
            have hkn' : (k : Int) < (ns.length : Int) := by omega
            have c1 := HRW.out wr hb k hkn
            have c2 := HSJ.out wr hb
            have HV2 : Hid (ns[k] ≠ s → ∀ u (h : u < ns.length), u < k + 1 → ns[u] ≠ s) := fun h1 u hu huj => by
              rcases Nat.lt_succ_iff_lt_or_eq.1 huj with h3 | h3
              · exact HV.out u hu h3
              · subst h3; exact h1
            have HNO2 : Hid (Q → ns[k] ≠ s) := fun h => (HNO.out h).2 k hlt2
            generalize ns[k] = q at *
            by_cases g : q = s
            · have g' : (q.toList == s.toList) = true := by rw [g]; simp
              have HF : Hid (¬ Q) := fun h => HNO2.out h g
              clear g HV HV2 HNO2
              go_wp2
              go_quiet (fail)
              go_wp2
              go_ret
              exact ⟨false, rfl, iffF HF.out, below_drewN hb _⟩
            · have g' : (q.toList == s.toList) = false := str_ne g
              have HV3 := Lib.hid (HV2.out g)
              clear g HV HV2 HNO2
              go_wp2
              go_quiet (fail)
              go_wp2
              go_roundw
              case rel => exact ⟨k + 1, by omega, by go_num, HV3, below_drewN hb _⟩
              case measure => simp [intOf]; omega
          · have hlt2' : ¬ (k : Int) < (j : Int) := by omega
            have HU3 : Hid (TxsTo ns (j + 1)) := HUJ.out ⟨⟨by have := H8.out; omega, (by first | exact H1.out.1 rfl | exact H1.out.1 trivial)⟩, fun u hu => HV.out u (by omega) (by omega)⟩
            go_wp2
            go_roundw
            case rel => exact ⟨j + 1, by omega, by go_num, HU3, hb⟩
            case measure => simp [intOf]; omega
    · have hlt' : ¬ (j : Int) < (ns.length : Int) := by omega
      obtain rfl : j = ns.length := by omega
      have HT : Hid Q := HQ.out.2 HU.out
      go_wp2
      go_ret
      exact ⟨true, rfl, iffT HT.out, hb⟩

end Go.Proofs.YtkhcappjhefkjaaGreatDoor

/- The specification's l32Size. -/
namespace Go.Proofs.YtkhcappjhefkjaaGreatDoor
open Go.RowKit
set_option linter.unusedVariables false

/-- A schema that is neither too high nor too wide. -/
def GooP (d : Nat) (p : Sc) : Prop := p.ht ≤ d ∧ NarS p
def GooTo (d : Nat) (kids : List Sc) (j : Nat) : Prop := ∀ i (h : i < kids.length), i < j → GooP d kids[i]
theorem goo_mk {d : Nat} {k mn mx : Int} {ns : List ByteArray} {ms : List Bool} {kids : List Sc} : GooP (d + 1) (.mk k mn mx ns ms kids) ↔ kids.length ≤ 4 ∧ GooTo d kids kids.length := by
  unfold GooP GooTo
  rw [htS_mk, nars_iff, Nat.add_le_add_iff_right, htS_le]
  constructor
  · rintro ⟨h1, h2, h3⟩
    exact ⟨h2, fun i hi _ => ⟨h1 _ (List.getElem_mem hi), h3 _ (List.getElem_mem hi)⟩⟩
  · rintro ⟨h2, h3⟩
    refine ⟨fun p hp => ?_, h2, fun p hp => ?_⟩
    · obtain ⟨i, hi, rfl⟩ := List.getElem_of_mem hp; exact (h3 i hi hi).1
    · obtain ⟨i, hi, rfl⟩ := List.getElem_of_mem hp; exact (h3 i hi hi).2

def SiS (d : Nat) : Prop := ∀ (k mn mx : Int) (ns : List ByteArray) (ms : List Bool) (kids : List Sc) (A M K : Option Addr) (ca ma kc B0 : Nat) (w : World), Scs w B0 K kids → kids.length ≤ 1048576 → (∀ p ∈ kids, LimS 1048576 p) →
  Calls Tryz.prog 37 #[.agg #[.int .i64 k, .int .i64 mn, .int .i64 mx, .slice A ns.length ca, .slice M ms.length ma, .slice K kids.length kc], .int .i64 (d : Nat)] w (fun e w' => (∃ r : Nat, e = .returned (.int .i64 r) ∧ 1 ≤ r ∧ r ≤ 11 * 5 ^ d ∧ (GooP d (.mk k mn mx ns ms kids) → r = (Sc.mk k mn mx ns ms kids).nodes) ∧ (¬ GooP d (.mk k mn mx ns ms kids) → 11 ≤ r)) ∧ Below w.heap.size w w')

set_option maxRecDepth 100000 in
set_option maxHeartbeats 1000000 in
theorem sizeS0 : SiS 0 := by
  intro k mn mx ns ms kids A M K ca ma kc B0 w hk hm hl
  go_enter Tryz.func37, Tryz.ntmps37
  go_wp2
  go_ret
  exact ⟨⟨11, rfl, by omega, by omega, fun h => by have := h.1; rw [htS_mk] at this; omega, fun _ => Nat.le_refl _⟩, below_box _⟩

set_option maxRecDepth 100000 in
set_option maxHeartbeats 1000000 in
theorem sizeSS {d : Nat} (IH : SiS d) (hd : d ≤ 4) : SiS (d + 1) := by
  intro k mn mx ns ms kids A M K ca ma kc B0 w hk hm hl
  have hd1 : ¬ ((d : Int) + 1) < 1 := by omega
  have hbx : Below w.heap.size w (w.alloc (.cells #[.int .i64 k, .int .i64 mn, .int .i64 mx, .slice A ns.length ca, .slice M ms.length ma, .slice K kids.length kc] 31)) := below_box _
  have HP5 : Hid (11 * 5 ^ (d + 1) = 5 * (11 * 5 ^ d) ∧ 11 ≤ 11 * 5 ^ d ∧ 11 * 5 ^ d ≤ 6875) := by
    show _ ∧ _ ∧ _
    have h1 : 5 ^ d ≤ 5 ^ 4 := Nat.pow_le_pow_right (by omega) hd
    have h0 : 5 ^ 0 ≤ 5 ^ d := Nat.pow_le_pow_right (by omega) (Nat.zero_le d)
    rw [Nat.pow_succ]
    omega
  by_cases h4 : 4 < kids.length
  · have h4' : (4 : Int) < (kids.length : Int) := by omega
    go_enter Tryz.func37, Tryz.ntmps37
    go_wp2
    go_ret
    refine ⟨⟨11, rfl, by omega, by have := HP5.out; omega, fun h => ?_, fun _ => Nat.le_refl _⟩, hbx⟩
    have := (goo_mk.1 h).1
    omega
  have h4' : ¬ (4 : Int) < (kids.length : Int) := by omega
  have HK := Lib.hid (hk.keep hbx)
  have k4 : (w.alloc (.cells #[.int .i64 k, .int .i64 mn, .int .i64 mx, .slice A ns.length ca, .slice M ms.length ma, .slice K kids.length kc] 31)).cell? ⟨w.heap.size, 5, none⟩ = some (.slice K kids.length kc) := by simp
  have HI := Lib.hid IH
  have HL := Lib.hid hl
  clear hk IH hl
  have hk4 : kids.length ≤ 4 := by omega
  clear h4
  go_enter Tryz.func37, Tryz.ntmps37
  go_wp2
  generalize w.alloc (.cells #[.int .i64 k, .int .i64 mn, .int .i64 mx, .slice A ns.length ca, .slice M ms.length ma, .slice K kids.length kc] 31) = W0 at *
  have HK4 := Lib.hid k4
  have HBX := Lib.hid hbx
  clear k4 hbx
  go_loopw [5, 6] (fun q i wr => ∃ j z : Nat, j ≤ kids.length ∧ i = .int .i64 j ∧ q = .int .i64 z ∧ Hid (1 ≤ z ∧ z ≤ 1 + j * (11 * 5 ^ d) ∧ (GooTo d kids j → z = nodesS (kids.take j) + 1) ∧ (¬ GooTo d kids j → 11 ≤ z)) ∧ Below W0.heap.size W0 wr) (fun _ i _ => kids.length - (intOf i).toNat)
  case atStart => exact ⟨0, 1, Nat.zero_le _, rfl, rfl, ⟨by omega, by omega, fun _ => by simp [nodesS], fun h => absurd (fun i _ hi => by omega) h⟩, Below.refl _ _⟩
  case round =>
    obtain ⟨j, z, hj, rfl, rfl, HZ, hb⟩ := hrel
    have k4 := cell_keep hb HK4.out
    have kl := cell_lt k4
    simp only at kl
    have hz1 : z ≤ 30000 := by
      have h1 := HZ.out.2.1
      have h2 := HP5.out.2.2
      have h3 : j * (11 * 5 ^ d) ≤ 4 * 6875 := Nat.mul_le_mul (by omega) h2
      omega
    by_cases hlt : j < kids.length
    · have hlt' : (j : Int) < (kids.length : Int) := by omega
      obtain ⟨b, off, rfl, hp⟩ := (HK.out.keep hb).at_ hlt
      have hmem := List.getElem_mem hlt
      have hlim := HL.out _ hmem
      have HT := Lib.hid (nodesS_take hlt)
      have HG : Hid (GooTo d kids (j + 1) ↔ GooTo d kids j ∧ GooP d kids[j]) := ⟨fun h => ⟨fun i hi hij => h i hi (by omega), h j hlt (by omega)⟩, fun h i hi hij => by
        rcases Nat.lt_succ_iff_lt_or_eq.1 hij with h3 | h3
        · exact h.1 i hi h3
        · subst h3; exact h.2⟩
      clear hmem
      generalize kids[j] = p at *
      obtain ⟨pk, pmn, pmx, pns, pms, pkids⟩ := p
      obtain ⟨PA, PM, PK, pa, pm, pc, hc, hv⟩ := hp.open_
      obtain ⟨c0, c1, c2, c3, c4, c5, cle⟩ := hc
      cases hlim with
      | mk _ _ _ _ _ _ q1 q2 q3 q4 q5 q6 =>
      have HC := Lib.hid (HI.out pk pmn pmx pns pms pkids PA PM PK pa pm pc B0 wr hv.k q4 q5)
      clear hp hv q1 q2 q3 q4 q5 q6 cle
      go_wp2_with fail
      refine HC.out.mono ?_
      rintro e w2 ⟨⟨r, rfl, hr1, hr2, hr3, hr4⟩, hb2⟩
      have hb' : Below W0.heap.size W0 w2 := hb.trans (hb2.mono hb.size)
      have hr5 : r ≤ 6875 := by have := HP5.out.2.2; omega
      have HZ2 : Hid (1 ≤ z + r ∧ z + r ≤ 1 + (j + 1) * (11 * 5 ^ d) ∧ (GooTo d kids (j + 1) → z + r = nodesS (kids.take (j + 1)) + 1) ∧ (¬ GooTo d kids (j + 1) → 11 ≤ z + r)) := by
        obtain ⟨a1, a2, a3, a4⟩ := HZ.out
        refine ⟨by omega, by rw [Nat.add_mul]; omega, fun h => ?_, fun h => ?_⟩
        · obtain ⟨h1, h2⟩ := HG.out.1 h
          rw [HT.out]
          have := a3 h1
          have := hr3 h2
          omega
        · by_cases h1 : GooTo d kids j
          · have := hr4 (fun h2 => h (HG.out.2 ⟨h1, h2⟩))
            omega
          · have := a4 h1; omega
      have hw1 : IntKind.i64.wrap ((z : Int) + (r : Int)) = (z : Int) + (r : Int) := IntWalk.i64_in _ (by omega)
      clear hb hb2 HC c0 c1 c2 c3 c4 c5 k4 hr3 hr4 HZ HT HG
      go_wp2
      go_roundw
      case rel => exact ⟨j + 1, z + r, by omega, by go_num, by go_num, HZ2, hb'⟩
      case measure => simp [intOf]; omega
    · have hlt' : ¬ (j : Int) < (kids.length : Int) := by omega
      obtain rfl : j = kids.length := by omega
      go_wp2
      go_ret
      refine ⟨⟨z, rfl, HZ.out.1, ?_, fun h => ?_, fun h => ?_⟩, HBX.out.trans (hb.mono HBX.out.size)⟩
      · have h1 := HZ.out.2.1
        have h2 := HP5.out
        have h3 : kids.length * (11 * 5 ^ d) ≤ 4 * (11 * 5 ^ d) := Nat.mul_le_mul_right _ hk4
        omega
      · have := HZ.out.2.2.1 (goo_mk.1 h).2
        rw [List.take_length] at this
        rw [nodesS_mk]; exact this
      · exact HZ.out.2.2.2 (fun h2 => h (goo_mk.2 ⟨hk4, h2⟩))

theorem sizes_all : ∀ d, d ≤ 5 → SiS d
  | 0, _ => sizeS0
  | d + 1, h => sizeSS (sizes_all d (by omega)) (by omega)

end Go.Proofs.YtkhcappjhefkjaaGreatDoor

