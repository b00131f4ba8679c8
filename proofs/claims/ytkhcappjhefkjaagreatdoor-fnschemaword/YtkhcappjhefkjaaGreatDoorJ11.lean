/- impl.jsonCheck.fits (written by tools/json/gen_j11.py). -/
import Derived.Test.YtkhcappjhefkjaaGreatDoorJ10
namespace Go.Proofs.YtkhcappjhefkjaaGreatDoor
open Go.RowKit
set_option linter.unusedVariables false

/-- All that was there is as it was, but block g. -/
structure Exc (g : Nat) (w w' : World) : Prop where
  b : Below g w w'
  u : Upon (g + 1) w w'
theorem Exc.of_below {g : Nat} {w w' : World} (hb : Below w.heap.size w w') (hg : g ≤ w.heap.size) : Exc g w w' := ⟨hb.mono hg, .of_below hb⟩
theorem Exc.trans {g : Nat} {x y z : World} (h : Exc g x y) (k : Exc g y z) : Exc g x z := ⟨h.b.trans k.b, h.u.trans h.b.size k.u⟩
theorem Exc.set_ (g i : Nat) (w : World) (v : Value) : Exc g w (w.setCell ⟨g, i, none⟩ v) := ⟨(Below.refl g w).setCell (p := ⟨g, i, none⟩) (Nat.le_refl g) v, .set_ (by simp) _⟩
theorem Exc.drewN {g : Nat} {w w' : World} (h : Exc g w w') (n : Nat) : Exc g w (w'.drewN n) := ⟨below_drewN h.b n, h.u⟩
theorem Exc.own {g : Nat} {w w' : World} (h : Exc g w w') {k : Nat} {t : TypeId} {xs : List Value} (ho : Own w k t xs) (hk : k ≠ g) : Own w' k t xs := by
  rcases Nat.lt_or_gt_of_ne hk with h1 | h1
  · exact (h.b.block k h1).trans ho
  · exact (h.u k h1 ho.lt).trans ho
theorem Exc.base {g : Nat} {w0 w w' : World} (h : Exc g w w') (hb : Below w0.heap.size w0 w) (hg : w0.heap.size ≤ g) : Below w0.heap.size w0 w' := hb.trans (h.b.mono hg)

/-- What a check of a value answers, and what it leaves of the count. -/
def FitPost (g : Nat) (L : Int) (P : Prop) (cnt : Nat) (neg : Bool) (w : World) (e : Ending) (w' : World) : Prop :=
  ∃ (r : Bool) (L' : Int), e = .returned (.bool (if neg then !r else r)) ∧ (r = true ↔ P ∧ (cnt : Int) ≤ L) ∧ (r = true → L' = L - cnt) ∧ Own w' g 104 [.int .i64 L'] ∧ Exc g w w'

/-- impl.jsonCheck.fits, where so many levels are left. -/
def FitP (d : Nat) : Prop := ∀ (k : Int) (f : Bool) (t : ByteArray) (ns : List ByteArray) (kids : List Js) (A K : Option Addr) (ca kc B0 g : Nat) (L dp : Int) (w0 w : World), JsV w0 B0 ns kids A K → LimJ 1048576 (.mk k f t ns kids) → ns.length ≤ ca → Below w0.heap.size w0 w → w0.heap.size ≤ g → Own w g 104 [.int .i64 L] → 0 ≤ L → L ≤ 40 → dp + (d : Int) = 6 →
  Calls Tryz.prog 83 #[.pointer (some ⟨g, 0, none⟩), .agg #[.int .i64 k, .bool f, .string t, .slice A ns.length ca, .slice K kids.length kc], .int .i64 dp] w (FitPost g L (htJ kids + 1 ≤ d ∧ JokP (.mk k f t ns kids)) (nodesJ kids + 1) false w)

set_option maxRecDepth 100000 in
set_option maxHeartbeats 4000000 in
theorem fitClos {d : Nat} (IH : FitP d) (k : Int) (f : Bool) (t : ByteArray) (ns : List ByteArray) (kids : List Js) (A K : Option Addr) (ca kc B0 g C D : Nat) (L dp : Int) (w0 w : World) (hv : JsV w0 B0 ns kids A K) (hl : LimJ 1048576 (.mk k f t ns kids)) (hle : ns.length ≤ ca) (hb : Below w0.heap.size w0 w) (hg : w0.heap.size ≤ g) (ho : Own w g 104 [.int .i64 L]) (h0 : 0 ≤ L) (h1 : L ≤ 40) (hd : dp + (d : Int) = 5) (hd8 : d ≤ 5)
    (hC : Own w C 119 [.pointer (some ⟨g, 0, none⟩)]) (hD : Own w D 3 [.int .i64 dp]) :
    Calls Tryz.prog 122 #[.agg #[.int .i64 k, .bool f, .string t, .slice A ns.length ca, .slice K kids.length kc], .pointer (some ⟨C, 0, none⟩), .pointer (some ⟨D, 0, none⟩)] w (FitPost g L (htJ kids + 1 ≤ d ∧ JokP (.mk k f t ns kids)) (nodesJ kids + 1) true w) := by
  have HC := Lib.hid (IH k f t ns kids A K ca kc B0 g L (dp + 1) w0 (w.alloc (.cells #[.int .i64 k, .bool f, .string t, .slice A ns.length ca, .slice K kids.length kc] 42)) hv hl hle (hb.trans ((below_box _).mono hb.size)) hg (ho.alloc _) h0 h1 (by omega))
  have HX := Lib.hid (Exc.of_below (g := g) (below_box (w := w) (.cells #[.int .i64 k, .bool f, .string t, .slice A ns.length ca, .slice K kids.length kc] 42)) (Nat.le_of_lt ho.lt))
  have c0 : w.cell? ⟨C, 0, none⟩ = some (.pointer (some ⟨g, 0, none⟩)) := by rw [hC.cell]; rfl
  have d0 : w.cell? ⟨D, 0, none⟩ = some (.int .i64 dp) := by rw [hD.cell]; rfl
  have cl := hC.lt
  have dl := hD.lt
  have e1 : dp ≤ 8 := by omega
  have e2 : 0 ≤ dp := by omega
  clear hv hl hle hb ho hC hD hd IH
  go_enter Tryz.func122, Tryz.ntmps122
  go_wp2_with fail
  refine HC.out.mono ?_
  rintro e w2 ⟨r, L', rfl, p1, p2, p3, p4⟩
  have P1 := Lib.hid p1
  have P2 := Lib.hid p2
  have P3 := Lib.hid p3
  have P4 := Lib.hid (HX.out.trans p4)
  clear p1 p2 p3 p4 HC HX
  simp only [Bool.false_eq_true, if_false]
  go_wp2
  go_ret
  exact ⟨r, L', by simp only [if_true]; first | rfl | (cases r <;> rfl), P1.out, P2.out, P3.out, P4.out⟩

def IdxPost (g : Nat) (L : Int) (P : Prop) (cnt : Nat) (w : World) (e : Ending) (w' : World) : Prop :=
  ∃ (r L' : Int), e = .returned (.int .i64 r) ∧ (r < 0 ↔ P ∧ (cnt : Int) ≤ L) ∧ (r < 0 → L' = L - cnt) ∧ Own w' g 104 [.int .i64 L'] ∧ Exc g w w'

set_option maxRecDepth 100000 in
set_option maxHeartbeats 4000000 in
theorem kidsFit {d : Nat} (IH : FitP d) (kids : List Js) (K : Option Addr) (kc B0 g C D : Nat) (L dp : Int) (w0 w : World) (hk : Jss w0 B0 K kids) (hm : kids.length ≤ 1048576) (hl : ∀ p ∈ kids, LimJ 1048576 p) (hb : Below w0.heap.size w0 w) (hg : w0.heap.size ≤ g) (ho : Own w g 104 [.int .i64 L]) (h0 : 0 ≤ L) (h1 : L ≤ 40) (hd : dp + (d : Int) = 5) (hd8 : d ≤ 5)
    (hC : Own w C 119 [.pointer (some ⟨g, 0, none⟩)]) (hD : Own w D 3 [.int .i64 dp]) (hCg : C ≠ g) (hDg : D ≠ g) :
    Calls Tryz.prog 121 #[.slice K kids.length kc, .func (.func 122) #[] #[.pointer (some ⟨C, 0, none⟩), .pointer (some ⟨D, 0, none⟩)]] w (IdxPost g L (∀ p ∈ kids, p.ht ≤ d ∧ JokP p) (nodesJ kids) w) := by
  have HK := Lib.hid hk
  have HL := Lib.hid hl
  have HB := Lib.hid hb
  have HO := Lib.hid ho
  have HC := Lib.hid hC
  have HD := Lib.hid hD
  have HI := Lib.hid IH
  have HDP := Lib.hid hd
  clear hk hl hb ho hC hD IH hd
  go_enter Tryz.func121, Tryz.ntmps121
  go_wp2
  go_loopw [9] (fun i wr => ∃ j : Nat, j ≤ kids.length ∧ i = .int .i64 j ∧ Hid (∀ u (h : u < kids.length), u < j → kids[u].ht ≤ d ∧ JokP kids[u]) ∧ Hid (Own wr g 104 [.int .i64 (L - (nodesJ (kids.take j) : Int))]) ∧ Hid ((nodesJ (kids.take j) : Int) ≤ L) ∧ Hid (Exc g w wr)) (fun i _ => kids.length - (intOf i).toNat)
  case atStart => exact ⟨0, Nat.zero_le _, rfl, fun u _ hu => by omega, by show Own _ _ _ _; simpa [nodesJ] using HO.out, by show _ ≤ _; simp [nodesJ]; omega, Exc.of_below (Below.refl _ _) (Nat.le_of_lt HO.out.lt)⟩
  case round =>
    obtain ⟨j, hj, rfl, HU, HOJ, HLE, HX⟩ := hrel
    by_cases hlt : j < kids.length
    · have hlt' : (j : Int) < (kids.length : Int) := by omega
      have hbr := HX.out.base HB.out hg
      obtain ⟨b, off, rfl, hp0⟩ := HK.out.at_ hlt
      have hp := hp0.keep hbr
      have hlim := HL.out _ (List.getElem_mem hlt)
      have HU2 : Hid (kids[j].ht ≤ d ∧ JokP kids[j] → ∀ u (h : u < kids.length), u < j + 1 → kids[u].ht ≤ d ∧ JokP kids[u]) := fun h1 u hu huj => by
        rcases Nat.lt_succ_iff_lt_or_eq.1 huj with h3 | h3
        · exact HU.out u hu h3
        · subst h3; exact h1
      have HNO : Hid ((∀ p ∈ kids, p.ht ≤ d ∧ JokP p) ∧ (nodesJ kids : Int) ≤ L → (kids[j].ht ≤ d ∧ JokP kids[j]) ∧ (kids[j].nodes : Int) ≤ L - (nodesJ (kids.take j) : Int)) := fun h => by
        refine ⟨h.1 _ (List.getElem_mem hlt), ?_⟩
        have h3 := nodesJ_le kids (j + 1)
        rw [nodesJ_take hlt] at h3
        have := h.2
        omega
      have HT := Lib.hid (nodesJ_take hlt)
      have hle := HLE.out
      generalize kids[j] = p at *
      obtain ⟨k, f, t, ns, pk⟩ := p
      rw [htJ_mk] at HU2 HNO
      rw [nodesJ_mk] at HT HNO
      obtain ⟨A, K2, ca, kc2, hc, hv⟩ := hp.open_
      obtain ⟨A0, K0, ca0, kc0, hc0, hv0⟩ := hp0.open_
      have c0 := hc.c0
      have c1 := hc.c1
      have c2 := hc.c2
      have c3 := hc.c3
      have c4 := hc.c4
      have hcle := hc.le
      have hvk : JsV w0 B0 ns pk A K2 := by
        have e3 := (cell_keep hbr hc0.c3).symm.trans c3
        have e4 := (cell_keep hbr hc0.c4).symm.trans c4
        injection e3 with e3; injection e3 with e3 _ _
        injection e4 with e4; injection e4 with e4 _ _
        subst e3 e4
        exact hv0
      generalize nodesJ (kids.take j) = x at *
      have hgw : g < wr.heap.size := HOJ.out.lt
      have hbx : Below wr.heap.size wr (wr.alloc (.cells #[.int .i64 k, .bool f, .string t, .slice A ns.length ca, .slice K2 pk.length kc2] 42)) := below_box _
      have HCL := Lib.hid (fitClos HI.out k f t ns pk A K2 ca kc2 B0 g C D (L - (x : Int)) dp w0 (wr.alloc (.cells #[.int .i64 k, .bool f, .string t, .slice A ns.length ca, .slice K2 pk.length kc2] 42)) hvk hlim hcle (hbr.trans (hbx.mono hbr.size)) hg (HOJ.out.alloc _) (by omega) (by omega) HDP.out hd8 ((HX.out.own HC.out hCg).alloc _) ((HX.out.own HD.out hDg).alloc _))
      have HXB := Lib.hid (HX.out.trans (Exc.of_below hbx (Nat.le_of_lt hgw)))
      clear hp hp0 hv hv0 hc hc0 hvk hlim hbr hbx HU HOJ HLE hcle
      go_wp2_with fail
      refine HCL.out.mono ?_
      rintro e w2 ⟨r, L', rfl, p1, p2, p3, p4⟩
      have P1 := Lib.hid p1
      have P2 := Lib.hid p2
      have P3 := Lib.hid p3
      have P4 := Lib.hid (HXB.out.trans p4)
      clear p1 p2 p3 p4 HCL HXB c0 c1 c2 c3 c4
      simp only [if_true]
      cases r
      · have HF : Hid (¬ ((∀ p ∈ kids, p.ht ≤ d ∧ JokP p) ∧ (nodesJ kids : Int) ≤ L)) := fun h => by
          have := P1.out.2 (HNO.out h)
          cases this
        go_wp2
        go_ret
        exact ⟨j, L', rfl, ⟨fun h => by omega, fun h => absurd h HF.out⟩, fun h => by omega, P3.out, P4.out⟩
      · have hq := P1.out.1 rfl
        have HU3 := Lib.hid (HU2.out hq.1)
        have HL' := Lib.hid (P2.out rfl)
        have HQ2 := Lib.hid hq.2
        clear hq HU2 HNO
        go_wp2
        go_roundw
        case rel =>
          refine ⟨j + 1, by omega, by go_num, HU3, ?_, ?_, P4⟩
          · show Own _ _ _ _
            rw [HT.out]
            have e := P3.out
            rw [HL'.out] at e
            have e2 : L - ((x + (nodesJ pk + 1) : Nat) : Int) = L - (x : Int) - ((nodesJ pk + 1 : Nat) : Int) := by omega
            rw [e2]; exact e
          · show _ ≤ _
            rw [HT.out]
            have := HQ2.out
            omega
        case measure => simp [intOf]; omega
    · have hlt' : ¬ (j : Int) < (kids.length : Int) := by omega
      obtain rfl : j = kids.length := by omega
      rw [List.take_length] at HOJ HLE
      have HA : Hid (∀ p ∈ kids, p.ht ≤ d ∧ JokP p) := fun p hp => by
        obtain ⟨u, hu, rfl⟩ := List.getElem_of_mem hp
        exact HU.out u hu hu
      go_wp2
      go_ret
      exact ⟨-1, _, rfl, ⟨fun _ => ⟨HA.out, HLE.out⟩, fun _ => by omega⟩, fun _ => rfl, HOJ.out, HX.out⟩

set_option maxRecDepth 100000 in
set_option maxHeartbeats 4000000 in
/-- Nothing, or too deep. -/
theorem fitNot (k : Int) (f : Bool) (t : ByteArray) (ns : List ByteArray) (kids : List Js) (A K : Option Addr) (ca kc B0 g : Nat) (L dp : Int) (w0 w : World) (hv : JsV w0 B0 ns kids A K) (hl : LimJ 1048576 (.mk k f t ns kids)) (hle : ns.length ≤ ca) (hb0 : Below w0.heap.size w0 w) (hg : w0.heap.size ≤ g) (ho : Own w g 104 [.int .i64 L]) (h0 : 0 ≤ L) (h1 : L ≤ 40) (hdp : 0 ≤ dp) (hdp6 : dp ≤ 6) (P : Prop) (hP : ¬ P) (hx : dp = 6 ∨ ¬ (KindP k ∧ BareJ k f t ns kids)) :
    Calls Tryz.prog 83 #[.pointer (some ⟨g, 0, none⟩), .agg #[.int .i64 k, .bool f, .string t, .slice A ns.length ca, .slice K kids.length kc], .int .i64 dp] w (FitPost g L P (nodesJ kids + 1) false w) := by
  cases hl with
  | mk _ _ _ _ _ l1 l2 l3 l4 l5 =>
  have HL5 := Lib.hid l5
  have HV := Lib.hid hv
  have HO := Lib.hid ho
  have HB0 := Lib.hid hb0
  have hgl := ho.lt
  have w00 := hb0.size
  obtain ⟨W3, hW3⟩ : ∃ W3, ((w.alloc (.cells #[.pointer (some ⟨g, 0, none⟩)] 119)).alloc (.cells #[.int .i64 k, .bool f, .string t, .slice A ns.length ca, .slice K kids.length kc] 42)).alloc (.cells #[.int .i64 dp] 3) = W3 := ⟨_, rfl⟩
  have HBOX : Hid (Below w.heap.size w W3) := by rw [← hW3]; exact ((below_box _).alloc (by simp) _).alloc (by simp; omega) _
  have HOC : Hid (Own W3 w.heap.size 119 [.pointer (some ⟨g, 0, none⟩)]) := by rw [← hW3]; exact ((Own.new w 119 #[.pointer (some ⟨g, 0, none⟩)]).alloc _).alloc _
  have HOD : Hid (Own W3 (w.heap.size + 1 + 1) 3 [.int .i64 dp]) := by
    rw [← hW3]
    have := Own.new ((w.alloc (.cells #[.pointer (some ⟨g, 0, none⟩)] 119)).alloc (.cells #[.int .i64 k, .bool f, .string t, .slice A ns.length ca, .slice K kids.length kc] 42)) 3 #[.int .i64 dp]
    rw [World.size_alloc, World.size_alloc] at this
    exact this
  have HVO := Lib.hid (valueOf_any k f t ns kids A K ca kc W3 l2 l4)
  have HW3 := Lib.hid hW3
  clear hv ho hb0 l5 l3 hW3
  have HF : Hid ((false : Bool) = true ↔ P ∧ ((nodesJ kids + 1 : Nat) : Int) ≤ L) := iffF (fun h => hP h.1)
  have HX := Lib.hid hx
  clear hx
  go_enter Tryz.func83, Tryz.ntmps83
  go_wp2_with fail
  rw [HW3.out]
  refine HVO.out.mono ?_
  rintro e w2 ⟨x, rfl, hx, hb⟩
  have HXX := Lib.hid hx
  clear hx
  have hbw : Below w.heap.size w w2 := HBOX.out.trans (hb.mono HBOX.out.size)
  have OC : Own w2 w.heap.size 119 [.pointer (some ⟨g, 0, none⟩)] := HOC.out.keep hb
  have OD : Own w2 (w.heap.size + 1 + 1) 3 [.int .i64 dp] := HOD.out.keep hb
  have hO2 : Own w2 g 104 [.int .i64 L] := HO.out.keep hbw
  have k0 : w2.cell? ⟨w.heap.size, 0, none⟩ = some (.pointer (some ⟨g, 0, none⟩)) := by rw [OC.cell]; rfl
  have g1 : w2.cell? ⟨g, 0, none⟩ = some (.int .i64 L) := by rw [hO2.cell]; rfl
  have f1 := hO2.frozen 0
  have OC2 := Lib.hid (OC.far (p := ⟨g, 0, none⟩) (by simp only; omega) (.int .i64 (L - 1)))
  have OD2 := Lib.hid (OD.far (p := ⟨g, 0, none⟩) (by simp only; omega) (.int .i64 (L - 1)))
  have OG2 : Hid (Own (w2.setCell ⟨g, 0, none⟩ (.int .i64 (L - 1))) g 104 [.int .i64 (L - 1)]) := hO2.set_ 0 _
  have EX2 := Lib.hid ((Exc.of_below (g := g) hbw (Nat.le_of_lt hgl)).trans (Exc.set_ g 0 w2 (.int .i64 (L - 1))))
  have z0 := OC.lt
  have z1 := OD.lt
  have z2 := hO2.lt
  clear hb hbw hO2 OC OD HBOX HOC HOD HVO HW3
  have m1 : (w2.setCell ⟨g, 0, none⟩ (.int .i64 (L - 1))).cell? ⟨w.heap.size + 1 + 1, 0, none⟩ = some (.int .i64 dp) := by rw [OD2.out.cell]; rfl
  rcases HXX.out with ⟨hR, hx⟩ | ⟨hR, hx⟩
  · have hdp6' : dp = 6 := HX.out.resolve_right (fun h => h hR)
    subst hdp6'
    obtain ⟨T, v, hTv⟩ : ∃ T v, valJ k f t A ns.length ca K kids.length kc = .iface T v := by unfold valJ; split; exact ⟨_, _, rfl⟩; split; exact ⟨_, _, rfl⟩; split; exact ⟨_, _, rfl⟩; split; exact ⟨_, _, rfl⟩; split; exact ⟨_, _, rfl⟩; exact ⟨_, _, rfl⟩
    rw [hTv] at hx
    subst hx
    clear HXX hTv
    go_wp2
    go_quiet (fail)
    go_wp2
    go_ret
    exact ⟨false, L - 1, rfl, HF.out, (fun h => by cases h), OG2.out.drewN _, EX2.out.drewN _⟩
  · subst hx
    clear HXX
    go_wp2
    go_quiet (fail)
    go_wp2
    go_ret
    exact ⟨false, L - 1, rfl, HF.out, (fun h => by cases h), OG2.out.drewN _, EX2.out.drewN _⟩

end Go.Proofs.YtkhcappjhefkjaaGreatDoor

