/- The program's check of schemas: the closure and the walk over kids. (written by gen_f3.py from J11) -/
import Derived.Test.YtkhcappjhefkjaaGreatDoorF2
import Derived.Test.YtkhcappjhefkjaaGreatDoorJ11
namespace Go.Proofs.YtkhcappjhefkjaaGreatDoor
open Go.RowKit
set_option linter.unusedVariables false

/-- A schema is ok and not too wide. -/
def SkP (p : Sc) : Prop := SokP p ∧ NarS p
theorem skp_iff {k mn mx : Int} {ns : List ByteArray} {ms : List Bool} {kids : List Sc} : SkP (.mk k mn mx ns ms kids) ↔ (SoneP k mn mx ns ms kids ∧ kids.length ≤ 4) ∧ ∀ p ∈ kids, SkP p := by
  unfold SkP
  rw [sok_iff, nars_iff]
  constructor
  · rintro ⟨⟨a, b⟩, c, d⟩; exact ⟨⟨a, c⟩, fun p hp => ⟨b p hp, d p hp⟩⟩
  · rintro ⟨⟨a, c⟩, h⟩; exact ⟨⟨a, fun p hp => (h p hp).1⟩, c, fun p hp => (h p hp).2⟩

/-- What a check of a value answers, and what it leaves of the count. -/
def FitSPost (g : Nat) (L : Int) (P : Prop) (cnt : Nat) (neg : Bool) (w : World) (e : Ending) (w' : World) : Prop :=
  ∃ (r : Bool) (L' : Int), e = .returned (.bool (if neg then !r else r)) ∧ (r = true ↔ P ∧ (cnt : Int) ≤ L) ∧ (r = true → L' = L - cnt) ∧ Own w' g 64 [.int .i64 L'] ∧ Exc g w w'

/-- impl.schemaCheck.fits, where so many levels are left. -/
def FitSP (d : Nat) : Prop := ∀ (k mn mx : Int) (ns : List ByteArray) (ms : List Bool) (kids : List Sc) (A M K : Option Addr) (ca ma kc B0 g : Nat) (L dp : Int) (w0 w : World), ScV w0 B0 ns ms kids A M K → LimS 1048576 (.mk k mn mx ns ms kids) → ns.length ≤ ca → Below w0.heap.size w0 w → w0.heap.size ≤ g → Own w g 64 [.int .i64 L] → 0 ≤ L → L ≤ 10 → dp + (d : Int) = 5 →
  Calls Tryz.prog 42 #[.pointer (some ⟨g, 0, none⟩), .agg #[.int .i64 k, .int .i64 mn, .int .i64 mx, .slice A ns.length ca, .slice M ms.length ma, .slice K kids.length kc], .int .i64 dp] w (FitSPost g L (htS kids + 1 ≤ d ∧ SkP (.mk k mn mx ns ms kids)) (nodesS kids + 1) false w)

set_option maxRecDepth 100000 in
set_option maxHeartbeats 4000000 in
theorem fitSClos {d : Nat} (IH : FitSP d) (k mn mx : Int) (ns : List ByteArray) (ms : List Bool) (kids : List Sc) (A M K : Option Addr) (ca ma kc B0 g C D : Nat) (L dp : Int) (w0 w : World) (hv : ScV w0 B0 ns ms kids A M K) (hl : LimS 1048576 (.mk k mn mx ns ms kids)) (hle : ns.length ≤ ca) (hb : Below w0.heap.size w0 w) (hg : w0.heap.size ≤ g) (ho : Own w g 64 [.int .i64 L]) (h0 : 0 ≤ L) (h1 : L ≤ 10) (hd : dp + (d : Int) = 4) (hd8 : d ≤ 4)
    (hC : Own w C 89 [.pointer (some ⟨g, 0, none⟩)]) (hD : Own w D 3 [.int .i64 dp]) :
    Calls Tryz.prog 75 #[.agg #[.int .i64 k, .int .i64 mn, .int .i64 mx, .slice A ns.length ca, .slice M ms.length ma, .slice K kids.length kc], .pointer (some ⟨C, 0, none⟩), .pointer (some ⟨D, 0, none⟩)] w (FitSPost g L (htS kids + 1 ≤ d ∧ SkP (.mk k mn mx ns ms kids)) (nodesS kids + 1) true w) := by
  have HC := Lib.hid (IH k mn mx ns ms kids A M K ca ma kc B0 g L (dp + 1) w0 (w.alloc (.cells #[.int .i64 k, .int .i64 mn, .int .i64 mx, .slice A ns.length ca, .slice M ms.length ma, .slice K kids.length kc] 31)) hv hl hle (hb.trans ((below_box _).mono hb.size)) hg (ho.alloc _) h0 h1 (by omega))
  have HX := Lib.hid (Exc.of_below (g := g) (below_box (w := w) (.cells #[.int .i64 k, .int .i64 mn, .int .i64 mx, .slice A ns.length ca, .slice M ms.length ma, .slice K kids.length kc] 31)) (Nat.le_of_lt ho.lt))
  have c0 : w.cell? ⟨C, 0, none⟩ = some (.pointer (some ⟨g, 0, none⟩)) := by rw [hC.cell]; rfl
  have d0 : w.cell? ⟨D, 0, none⟩ = some (.int .i64 dp) := by rw [hD.cell]; rfl
  have cl := hC.lt
  have dl := hD.lt
  have e1 : dp ≤ 8 := by omega
  have e2 : 0 ≤ dp := by omega
  clear hv hl hle hb ho hC hD hd IH
  go_enter Tryz.func75, Tryz.ntmps75
  go_wp2_with fail
  refine HC.out.mono ?_
  rintro e w2 ⟨r, L', rfl, p1, p2, p3, p4⟩
  have P1 := Lib.hid p1
  have P2 := Lib.hid p2
  have P3 := Lib.hid p3
  have P4 := Lib.hid (HX.out.trans p4)
  clear p1 p2 p3 p4 HC HX
  simp only [Bool.false_eq_true, if_false]
  go_wp2
  go_ret
  exact ⟨r, L', by simp only [if_true]; first | rfl | (cases r <;> rfl), P1.out, P2.out, P3.out, P4.out⟩

def IdxSPost (g : Nat) (L : Int) (P : Prop) (cnt : Nat) (w : World) (e : Ending) (w' : World) : Prop :=
  ∃ (r L' : Int), e = .returned (.int .i64 r) ∧ (r < 0 ↔ P ∧ (cnt : Int) ≤ L) ∧ (r < 0 → L' = L - cnt) ∧ Own w' g 64 [.int .i64 L'] ∧ Exc g w w'

set_option maxRecDepth 100000 in
set_option maxHeartbeats 4000000 in
theorem kidsSFit {d : Nat} (IH : FitSP d) (kids : List Sc) (K : Option Addr) (kc B0 g C D : Nat) (L dp : Int) (w0 w : World) (hk : Scs w0 B0 K kids) (hm : kids.length ≤ 1048576) (hl : ∀ p ∈ kids, LimS 1048576 p) (hb : Below w0.heap.size w0 w) (hg : w0.heap.size ≤ g) (ho : Own w g 64 [.int .i64 L]) (h0 : 0 ≤ L) (h1 : L ≤ 10) (hd : dp + (d : Int) = 4) (hd8 : d ≤ 4)
    (hC : Own w C 89 [.pointer (some ⟨g, 0, none⟩)]) (hD : Own w D 3 [.int .i64 dp]) (hCg : C ≠ g) (hDg : D ≠ g) :
    Calls Tryz.prog 74 #[.slice K kids.length kc, .func (.func 75) #[] #[.pointer (some ⟨C, 0, none⟩), .pointer (some ⟨D, 0, none⟩)]] w (IdxSPost g L (∀ p ∈ kids, p.ht ≤ d ∧ SkP p) (nodesS kids) w) := by
  have HK := Lib.hid hk
  have HL := Lib.hid hl
  have HB := Lib.hid hb
  have HO := Lib.hid ho
  have HC := Lib.hid hC
  have HD := Lib.hid hD
  have HI := Lib.hid IH
  have HDP := Lib.hid hd
  clear hk hl hb ho hC hD IH hd
  go_enter Tryz.func74, Tryz.ntmps74
  go_wp2
  go_loopw [9] (fun i wr => ∃ j : Nat, j ≤ kids.length ∧ i = .int .i64 j ∧ Hid (∀ u (h : u < kids.length), u < j → kids[u].ht ≤ d ∧ SkP kids[u]) ∧ Hid (Own wr g 64 [.int .i64 (L - (nodesS (kids.take j) : Int))]) ∧ Hid ((nodesS (kids.take j) : Int) ≤ L) ∧ Hid (Exc g w wr)) (fun i _ => kids.length - (intOf i).toNat)
  case atStart => exact ⟨0, Nat.zero_le _, rfl, fun u _ hu => by omega, by show Own _ _ _ _; simpa [nodesS] using HO.out, by show _ ≤ _; simp [nodesS]; omega, Exc.of_below (Below.refl _ _) (Nat.le_of_lt HO.out.lt)⟩
  case round =>
    obtain ⟨j, hj, rfl, HU, HOJ, HLE, HX⟩ := hrel
    by_cases hlt : j < kids.length
    · have hlt' : (j : Int) < (kids.length : Int) := by omega
      have hbr := HX.out.base HB.out hg
      obtain ⟨b, off, rfl, hp0⟩ := HK.out.at_ hlt
      have hp := hp0.keep hbr
      have hlim := HL.out _ (List.getElem_mem hlt)
      have HU2 : Hid (kids[j].ht ≤ d ∧ SkP kids[j] → ∀ u (h : u < kids.length), u < j + 1 → kids[u].ht ≤ d ∧ SkP kids[u]) := fun h1 u hu huj => by
        rcases Nat.lt_succ_iff_lt_or_eq.1 huj with h3 | h3
        · exact HU.out u hu h3
        · subst h3; exact h1
      have HNO : Hid ((∀ p ∈ kids, p.ht ≤ d ∧ SkP p) ∧ (nodesS kids : Int) ≤ L → (kids[j].ht ≤ d ∧ SkP kids[j]) ∧ (kids[j].nodes : Int) ≤ L - (nodesS (kids.take j) : Int)) := fun h => by
        refine ⟨h.1 _ (List.getElem_mem hlt), ?_⟩
        have h3 := nodesS_le kids (j + 1)
        rw [nodesS_take hlt] at h3
        have := h.2
        omega
      have HT := Lib.hid (nodesS_take hlt)
      have hle := HLE.out
      generalize kids[j] = p at *
      obtain ⟨k, mn, mx, ns, ms, pk⟩ := p
      rw [htS_mk] at HU2 HNO
      rw [nodesS_mk] at HT HNO
      obtain ⟨A, M, K2, ca, ma, kc2, hc, hv⟩ := hp.open_
      obtain ⟨A0, M0, K0, ca0, ma0, kc0, hc0, hv0⟩ := hp0.open_
      have c0 := hc.c0
      have c1 := hc.c1
      have c2 := hc.c2
      have c3 := hc.c3
      have c4 := hc.c4
      have c5 := hc.c5
      have hcle := hc.le
      have hvk : ScV w0 B0 ns ms pk A M K2 := by
        have e3 := (cell_keep hbr hc0.c3).symm.trans c3
        have e4 := (cell_keep hbr hc0.c4).symm.trans c4
        have e5 := (cell_keep hbr hc0.c5).symm.trans c5
        injection e3 with e3; injection e3 with e3 _ _
        injection e4 with e4; injection e4 with e4 _ _
        injection e5 with e5; injection e5 with e5 _ _
        subst e3 e4 e5
        exact hv0
      generalize nodesS (kids.take j) = x at *
      have hgw : g < wr.heap.size := HOJ.out.lt
      have hbx : Below wr.heap.size wr (wr.alloc (.cells #[.int .i64 k, .int .i64 mn, .int .i64 mx, .slice A ns.length ca, .slice M ms.length ma, .slice K2 pk.length kc2] 31)) := below_box _
      have HCL := Lib.hid (fitSClos HI.out k mn mx ns ms pk A M K2 ca ma kc2 B0 g C D (L - (x : Int)) dp w0 (wr.alloc (.cells #[.int .i64 k, .int .i64 mn, .int .i64 mx, .slice A ns.length ca, .slice M ms.length ma, .slice K2 pk.length kc2] 31)) hvk hlim hcle (hbr.trans (hbx.mono hbr.size)) hg (HOJ.out.alloc _) (by omega) (by omega) HDP.out hd8 ((HX.out.own HC.out hCg).alloc _) ((HX.out.own HD.out hDg).alloc _))
      have HXB := Lib.hid (HX.out.trans (Exc.of_below hbx (Nat.le_of_lt hgw)))
      clear hp hp0 hv hv0 hc hc0 hvk hlim hbr hbx HU HOJ HLE hcle
      go_wp2_with fail
      refine HCL.out.mono ?_
      rintro e w2 ⟨r, L', rfl, p1, p2, p3, p4⟩
      have P1 := Lib.hid p1
      have P2 := Lib.hid p2
      have P3 := Lib.hid p3
      have P4 := Lib.hid (HXB.out.trans p4)
      clear p1 p2 p3 p4 HCL HXB c0 c1 c2 c3 c4 c5
      simp only [if_true]
      cases r
      · have HF : Hid (¬ ((∀ p ∈ kids, p.ht ≤ d ∧ SkP p) ∧ (nodesS kids : Int) ≤ L)) := fun h => by
          have := P1.out.2 (HNO.out h)
          cases this
        go_wp2
        go_ret
        exact ⟨j, L', rfl, ⟨fun h => by omega, fun h => absurd h HF.out⟩, fun h => by omega, P3.out, P4.out⟩
      · have hq := P1.out.1 rfl
        have HU3 := Lib.hid (HU2.out hq.1)
        have HL' := Lib.hid (P2.out rfl)
        have HQ2 := Lib.hid hq.2
        clear hq HU2 HNO
        go_wp2
        go_roundw
        case rel =>
          refine ⟨j + 1, by omega, by go_num, HU3, ?_, ?_, P4⟩
          · show Own _ _ _ _
            rw [HT.out]
            have e := P3.out
            rw [HL'.out] at e
            have e2 : L - ((x + (nodesS pk + 1) : Nat) : Int) = L - (x : Int) - ((nodesS pk + 1 : Nat) : Int) := by omega
            rw [e2]; exact e
          · show _ ≤ _
            rw [HT.out]
            have := HQ2.out
            omega
        case measure => simp [intOf]; omega
    · have hlt' : ¬ (j : Int) < (kids.length : Int) := by omega
      obtain rfl : j = kids.length := by omega
      rw [List.take_length] at HOJ HLE
      have HA : Hid (∀ p ∈ kids, p.ht ≤ d ∧ SkP p) := fun p hp => by
        obtain ⟨u, hu, rfl⟩ := List.getElem_of_mem hp
        exact HU.out u hu hu
      go_wp2
      go_ret
      exact ⟨-1, _, rfl, ⟨fun _ => ⟨HA.out, HLE.out⟩, fun _ => by omega⟩, fun _ => rfl, HOJ.out, HX.out⟩

end Go.Proofs.YtkhcappjhefkjaaGreatDoor

