/- The specification of grammars, walked: spec.GramOk (written by tools/gen_p13.py). -/
import Derived.Test.YtkgiklmdpdakbaaP11
namespace Go.Proofs.Ytkgiklmdpdakbaa
open Go.RowKit
set_option linter.unusedVariables false

theorem nodes_pos (p : Pt) : 1 ≤ p.nodes := by cases p; rw [nodes_mk]; omega
theorem nodes_bound7 : ∀ (d : Nat) (p : Pt), p.ht ≤ d + 1 → Narrow p → p.nodes ≤ 161 ^ d
  | 0, .mk k t lo hi kids mn mx, h, _ => by
    rw [ht_mk] at h
    cases kids with
    | nil => rw [nodes_mk]; simp [nodesL]
    | cons q r =>
      obtain ⟨k', t', lo', hi', kids', mn', mx'⟩ := q
      simp only [htL, Pt.ht] at h
      omega
  | d + 1, .mk k t lo hi kids mn mx, h, hn => by
    rw [ht_mk] at h
    cases hn with
    | mk _ _ _ _ _ _ _ q1 q2 =>
    have h1 := nodesL_bound (M := 161 ^ d) kids (fun p hp => nodes_bound7 d p (Nat.le_trans (ht_mem hp) (by omega)) (q2 p hp))
    have h2 : kids.length * 161 ^ d ≤ 160 * 161 ^ d := Nat.mul_le_mul_right _ q1
    have h3 : 161 ^ 0 ≤ 161 ^ d := Nat.pow_le_pow_right (by omega) (Nat.zero_le d)
    rw [Nat.pow_zero] at h3
    rw [nodes_mk, Nat.pow_succ]
    omega
theorem len_le_nodesL : ∀ (kids : List Pt), kids.length ≤ nodesL kids
  | [] => by simp [nodesL]
  | p :: r => by
    have := len_le_nodesL r
    have := nodes_pos p
    simp only [nodesL, List.length_cons]; omega
theorem nodesL_mem : ∀ {kids : List Pt} {p : Pt}, p ∈ kids → p.nodes ≤ nodesL kids
  | q :: r, p, h => by
    simp only [nodesL]
    rcases List.mem_cons.1 h with rfl | h
    · omega
    · have := nodesL_mem h; omega
theorem narrow_of : ∀ (d : Nat) (p : Pt), p.ht ≤ d → p.nodes ≤ 160 → Narrow p
  | 0, .mk k t lo hi kids mn mx, h, _ => by rw [ht_mk] at h; omega
  | d + 1, .mk k t lo hi kids mn mx, h, hn => by
    rw [ht_mk] at h
    rw [nodes_mk] at hn
    have := len_le_nodesL kids
    exact .mk k t lo hi kids mn mx (by omega) (fun p hp => narrow_of d p (Nat.le_trans (ht_mem hp) (by omega)) (by have := nodesL_mem hp; omega))

theorem RuleIx.ex_to (rs : List Ru) (t : ByteArray) : ∀ n, n ≤ rs.length → (∀ j (h : j < rs.length), j < n → rs[j].name ≠ t) ∨ ∃ k : Nat, ∃ h : k < rs.length, rs[k].name = t ∧ ∀ j (h : j < rs.length), j < k → rs[j].name ≠ t
  | 0, _ => .inl (fun j _ h => by omega)
  | n + 1, hn => by
    rcases RuleIx.ex_to rs t n (by omega) with h | h
    · by_cases g : rs[n].name = t
      · exact .inr ⟨n, hn, g, h⟩
      · refine .inl (fun j hj hjn => ?_)
        rcases Nat.lt_succ_iff_lt_or_eq.1 hjn with h3 | h3
        · exact h j hj h3
        · subst h3; exact g
    · exact .inr h
theorem RuleIx.ex (rs : List Ru) (t : ByteArray) : ∃ r : Int, RuleIx rs t r := by
  rcases RuleIx.ex_to rs t rs.length (Nat.le_refl _) with h | ⟨k, hk, h1, h2⟩
  · refine ⟨-1, .inl ⟨rfl, fun x hx => ?_⟩⟩
    obtain ⟨u, hu, rfl⟩ := List.getElem_of_mem hx
    exact h u hu hu
  · exact ⟨k, .inr ⟨k, rfl, hk, h1, h2⟩⟩

/-- A rule of a grammar is ok, but for how many parts there are. -/
def RuleP (rs : List Ru) (i : Nat) (r : Ru) : Prop := NameP r.name ∧ RuleIx rs r.name i ∧ r.p.ht ≤ 8 ∧ OkP rs r.p
def parts (rs : List Ru) : List Pt := rs.map Ru.p
/-- A grammar is ok. -/
def GramP (rs : List Ru) : Prop := 1 ≤ rs.length ∧ rs.length ≤ 24 ∧ (∀ i (h : i < rs.length), RuleP rs i rs[i]) ∧ nodesL (parts rs) ≤ 160
theorem parts_take {rs : List Ru} {j : Nat} (h : j < rs.length) : nodesL ((parts rs).take (j + 1)) = nodesL ((parts rs).take j) + rs[j].p.nodes := by
  have hl : j < (parts rs).length := by unfold parts; simpa using h
  rw [nodesL_take hl]
  simp [parts]
theorem parts_mem {rs : List Ru} {j : Nat} (h : j < rs.length) : rs[j].p.nodes ≤ nodesL (parts rs) := nodesL_mem (List.mem_map_of_mem (f := Ru.p) (List.getElem_mem h))

theorem BoolPost.yes {P : Program} {f : FuncId} {args : Array Value} {w : World} {Q : Prop} (h : Calls P f args w (BoolPost Q w)) (hq : Q) : Calls P f args w fun e w' => e = .returned (.bool true) ∧ Below w.heap.size w w' :=
  h.mono fun e w' ⟨r, he, hr, hb⟩ => ⟨by rw [he, hr.2 hq], hb⟩
theorem BoolPost.no {P : Program} {f : FuncId} {args : Array Value} {w : World} {Q : Prop} (h : Calls P f args w (BoolPost Q w)) (hq : ¬ Q) : Calls P f args w fun e w' => e = .returned (.bool false) ∧ Below w.heap.size w w' :=
  h.mono fun e w' ⟨r, he, hr, hb⟩ => ⟨by rw [he]; cases r; rfl; exact absurd (hr.1 rfl) hq, hb⟩
theorem l2Rule_lit (rs : List Ru) (t : ByteArray) (r : Int) (hx : RuleIx rs t r) (a : Option Addr) (c B0 : Nat) (w : World) (hr : Rus w B0 a rs) (hm : rs.length ≤ 1048576) :
    Calls Try.prog 65 #[.agg #[.slice a rs.length c], .string t] w fun e w' => e = .returned (.int .i64 r) ∧ Below w.heap.size w w' :=
  (l2Rule_any rs t a c B0 w hr hm).mono fun e w' ⟨s, he, hs, hb⟩ => ⟨by rw [he, hs.one hx], hb⟩

set_option maxRecDepth 100000 in
set_option maxHeartbeats 4000000 in
theorem specGramOk_any (rs : List Ru) (a : Option Addr) (c B1 : Nat) (w : World) (hr : Rus w B1 a rs) (hm : rs.length ≤ 1048576) (hl : LimR 1048576 rs) :
    Calls Try.prog 49 #[.agg #[.slice a rs.length c]] w (BoolPost (GramP rs) w) := by
  have HBX := Lib.hid (below_box (w := w) (.cells #[.slice a rs.length c] 64))
  have HR := Lib.hid (hr.keep HBX.out)
  have HL := Lib.hid hl
  have OGm : Hid (Own (w.alloc (.cells #[.slice a rs.length c] 64)) w.heap.size 64 [.slice a rs.length c]) := Own.new w 64 #[.slice a rs.length c]
  clear hr hl
  by_cases r1 : rs.length < 1
  · have r1' : (rs.length : Int) < 1 := by omega
    have H := Lib.hid r1
    go_enter Try.func49, Try.ntmps49
    go_wp2
    go_ret
    exact ⟨false, rfl, iffF (fun h => by have := h.1; have := H.out; omega), HBX.out⟩
  by_cases r2 : 24 < rs.length
  · have r1' : ¬ (rs.length : Int) < 1 := by omega
    have r2' : (24 : Int) < (rs.length : Int) := by omega
    have H := Lib.hid r2
    go_enter Try.func49, Try.ntmps49
    go_wp2
    go_ret
    exact ⟨false, rfl, iffF (fun h => by have := h.2.1; have := H.out; omega), HBX.out⟩
  have r1' : ¬ (rs.length : Int) < 1 := by omega
  have r2' : ¬ (24 : Int) < (rs.length : Int) := by omega
  go_enter Try.func49, Try.ntmps49
  go_wp2
  generalize w.alloc (.cells #[.slice a rs.length c] 64) = W0 at *
  go_loopw [3, 4] (fun q i wr => ∃ j : Nat, j ≤ rs.length ∧ i = .int .i64 j ∧ q = .int .i64 (nodesL ((parts rs).take j) : Nat) ∧ Hid (∀ u (h : u < rs.length), u < j → RuleP rs u rs[u] ∧ Narrow rs[u].p) ∧ Below W0.heap.size W0 wr) (fun _ i _ => rs.length - (intOf i).toNat)
  case atStart => exact ⟨0, Nat.zero_le _, rfl, by simp [nodesL], fun u _ hu => by omega, Below.refl _ _⟩
  case round =>
    obtain ⟨j, hj, rfl, rfl, HU, hb⟩ := hrel
    have g0 : wr.cell? ⟨w.heap.size, 0, none⟩ = some (.slice a rs.length c) := by rw [(OGm.out.keep hb).cell]; rfl
    have gl := cell_lt g0
    simp only at gl
    by_cases hlt : j < rs.length
    · have hlt' : (j : Int) < (rs.length : Int) := by omega
      have hxb : nodesL ((parts rs).take j) ≤ j * 2804020163098721 := by
        have h1 := nodesL_bound (M := 2804020163098721) ((parts rs).take j) (fun p hp => by
          obtain ⟨u, hu, rfl⟩ := List.getElem_of_mem hp
          have hu' : u < j ∧ u < rs.length := by simp [parts] at hu; omega
          have := HU.out u hu'.2 hu'.1
          have hb7 := nodes_bound7 7 rs[u].p this.1.2.2.1 this.2
          simpa [parts] using hb7)
        have h2 : ((parts rs).take j).length ≤ j := List.length_take_le _ _
        exact Nat.le_trans h1 (Nat.mul_le_mul_right _ h2)
      have hrl : Rus wr B1 a rs := HR.out.keep hb
      have HRL := Lib.hid hrl
      obtain ⟨b, off, rfl, hn⟩ := hrl.at_ hlt
      have n0 := hn.n
      have hp := hn.p
      have hlim := HL.out _ (List.getElem_mem hlt)
      have HNO : Hid (GramP rs → RuleP rs j rs[j] ∧ rs[j].p.nodes ≤ 160) := fun h => ⟨h.2.2.1 j hlt, Nat.le_trans (parts_mem hlt) h.2.2.2⟩
      have HU2 : Hid (RuleP rs j rs[j] ∧ Narrow rs[j].p → ∀ u (h : u < rs.length), u < j + 1 → RuleP rs u rs[u] ∧ Narrow rs[u].p) := fun h1 u hu huj => by
        rcases Nat.lt_succ_iff_lt_or_eq.1 huj with h3 | h3
        · exact HU.out u hu h3
        · subst h3; exact h1
      have HT := Lib.hid (parts_take hlt)
      generalize rs[j] = rj at *
      obtain ⟨nm, p⟩ := rj
      obtain ⟨pk, pt, plo, phi, pkids, pmn, pmx⟩ := p
      simp only at n0 hp hlim HT
      rw [nodes_mk] at HT
      have HNO' : Hid (GramP rs → NameP nm ∧ RuleIx rs nm j ∧ htL pkids + 1 ≤ 8 ∧ OkP rs (.mk pk pt plo phi pkids pmn pmx) ∧ nodesL pkids + 1 ≤ 160) := fun h => by
        obtain ⟨⟨h1, h2, h3, h4⟩, h5⟩ := HNO.out h
        simp only [ht_mk, nodes_mk] at h1 h2 h3 h4 h5
        exact ⟨h1, h2, h3, h4, h5⟩
      have HU2' : Hid (NameP nm ∧ RuleIx rs nm j ∧ (htL pkids + 1 ≤ 8 ∧ Narrow (.mk pk pt plo phi pkids pmn pmx)) ∧ OkP rs (.mk pk pt plo phi pkids pmn pmx) → ∀ u (h : u < rs.length), u < j + 1 → RuleP rs u rs[u] ∧ Narrow rs[u].p) := fun ⟨h1, h2, h3, h4⟩ => HU2.out ⟨⟨h1, h2, by rw [ht_mk]; exact h3.1, h4⟩, h3.2⟩
      replace HNO := HNO'
      replace HU2 : Hid (NameP nm ∧ RuleIx rs nm j ∧ htL pkids + 1 ≤ 8 ∧ Narrow (.mk pk pt plo phi pkids pmn pmx) ∧ OkP rs (.mk pk pt plo phi pkids pmn pmx) → ∀ u (h : u < rs.length), u < j + 1 → RuleP rs u rs[u] ∧ Narrow rs[u].p) := fun ⟨h1, h2, h3, h4, h5⟩ => HU2'.out ⟨h1, h2, ⟨h3, h4⟩, h5⟩
      clear HNO' HU2'
      obtain ⟨hnl, hlp⟩ := hlim
      obtain ⟨PA, PB, PK, pa, pb, pc, hc, hv⟩ := hp.open_
      obtain ⟨c0, c1, c2, c3, c4, c5, c6⟩ := hc
      have HV := Lib.hid hv
      have HLP := Lib.hid hlp
      obtain ⟨r, hrx⟩ := RuleIx.ex rs nm
      have HC1b := Lib.hid (l2Name_any nm wr.drew hnl)
      have HC2 : Hid (∀ w2, Below wr.drew.heap.size wr.drew w2 → Calls Try.prog 65 #[.agg #[.slice (some ⟨b, off, none⟩) rs.length c], .string nm] w2 fun e w' => e = .returned (.int .i64 r) ∧ Below w2.heap.size w2 w') := fun w2 h2 => l2Rule_lit rs nm r hrx _ c B1 w2 ((HRL.out.keep (Below.refl _ _).drew).keep h2) hm
      have HC3b : Hid (∀ w2, Below wr.drew.heap.size wr.drew w2 → Calls Try.prog 66 #[.agg #[.int .i64 pk, .string pt, .slice PA plo.length pa, .slice PB phi.length pb, .slice PK pkids.length pc, .int .i64 pmn, .int .i64 pmx], .int .i64 (8 : Nat)] w2 (BoolPost (htL pkids + 1 ≤ 8 ∧ Narrow (.mk pk pt plo phi pkids pmn pmx)) w2)) := fun w2 h2 => shallow_all 8 (by omega) pk pt plo phi pkids pmn pmx PA PB PK pa pb pc B1 w2 ((HV.out.keep (Below.refl _ _).drew).keep h2).k HLP.out
      have HC4b : Hid (∀ w2, Below wr.drew.heap.size wr.drew w2 → Calls Try.prog 67 #[.agg #[.slice (some ⟨b, off, none⟩) rs.length c], .agg #[.int .i64 pk, .string pt, .slice PA plo.length pa, .slice PB phi.length pb, .slice PK pkids.length pc, .int .i64 pmn, .int .i64 pmx], .int .i64 (8 : Nat)] w2 (BoolPost (htL pkids + 1 ≤ 8 ∧ OkP rs (.mk pk pt plo phi pkids pmn pmx)) w2)) := fun w2 h2 => part_all 8 (by omega) rs pk pt plo phi pkids pmn pmx _ PA PB PK c pa pb pc B1 B1 w2 ((HRL.out.keep (Below.refl _ _).drew).keep h2) hm ((HV.out.keep (Below.refl _ _).drew).keep h2) HLP.out
      have HRX := Lib.hid hrx
      generalize nodesL ((parts rs).take j) = x at *
      clear hn hp hv hlp hrx
      by_cases q1 : NameP nm
      · have HC1 := Lib.hid (BoolPost.yes HC1b.out q1)
        by_cases q2 : r = j
        · subst q2
          have e2 : ((j : Int) != (j : Int)) = false := by simp
          replace q2 := HRX.out
          by_cases q3 : htL pkids + 1 ≤ 8 ∧ Narrow (.mk pk pt plo phi pkids pmn pmx)
          · have HC3 : Hid (∀ w2, Below wr.drew.heap.size wr.drew w2 → Calls Try.prog 66 #[.agg #[.int .i64 pk, .string pt, .slice PA plo.length pa, .slice PB phi.length pb, .slice PK pkids.length pc, .int .i64 pmn, .int .i64 pmx], .int .i64 8] w2 fun e w' => e = .returned (.bool true) ∧ Below w2.heap.size w2 w') := fun w2 h2 => BoolPost.yes (HC3b.out w2 h2) q3
            by_cases q4 : htL pkids + 1 ≤ 8 ∧ OkP rs (.mk pk pt plo phi pkids pmn pmx)
            · have HC4 : Hid (∀ w2, Below wr.drew.heap.size wr.drew w2 → Calls Try.prog 67 #[.agg #[.slice (some ⟨b, off, none⟩) rs.length c], .agg #[.int .i64 pk, .string pt, .slice PA plo.length pa, .slice PB phi.length pb, .slice PK pkids.length pc, .int .i64 pmn, .int .i64 pmx], .int .i64 8] w2 fun e w' => e = .returned (.bool true) ∧ Below w2.heap.size w2 w') := fun w2 h2 => BoolPost.yes (HC4b.out w2 h2) q4
              clear HC1b HC3b HC4b HRX
              have HU3 := Lib.hid (HU2.out ⟨q1, q2, q3.1, q3.2, q4.2⟩)
              have HSZ : Hid (∀ w2, Below wr.heap.size wr w2 → Calls Try.prog 68 #[.agg #[.int .i64 pk, .string pt, .slice PA plo.length pa, .slice PB phi.length pb, .slice PK pkids.length pc, .int .i64 pmn, .int .i64 pmx]] w2 (fun e w' => e = .returned (.int .i64 (nodesL pkids + 1 : Nat)) ∧ Below w2.heap.size w2 w')) := fun w2 h2 => by
                cases q3.2 with
                | mk _ _ _ _ _ _ _ z1 z2 => exact size_all 8 (by omega) pk pt plo phi pkids pmn pmx PA PB PK pa pb pc B1 w2 q3.1 (HV.out.keep h2).k z1 z2
              have HBD : Hid (nodesL pkids + 1 ≤ 2804020163098721) := by
                show _ ≤ _
                have := nodes_bound7 7 (.mk pk pt plo phi pkids pmn pmx) (by rw [ht_mk]; exact q3.1) q3.2
                rw [nodes_mk] at this
                exact this
              obtain ⟨y, hy⟩ : ∃ y, nodesL pkids + 1 = y := ⟨_, rfl⟩
              rw [hy] at HSZ HBD HT
              have hyb := HBD.out
              clear q1 q2 q3 q4 hy HBD HNO HU HU2
              go_wp2
              go_region_held3 (fun X => X.cell? ⟨w.heap.size, 0, none⟩ = some (.slice (some ⟨b, off, none⟩) rs.length c) ∧ X.cell? ⟨b, off + j * 8, none⟩ = some (.string nm) ∧ X.cell? ⟨b, off + j * 8 + 1, none⟩ = some (.int .i64 pk) ∧ X.cell? ⟨b, off + j * 8 + 1 + 1, none⟩ = some (.string pt) ∧ X.cell? ⟨b, off + j * 8 + 1 + 2, none⟩ = some (.slice PA plo.length pa) ∧ X.cell? ⟨b, off + j * 8 + 1 + 3, none⟩ = some (.slice PB phi.length pb) ∧ X.cell? ⟨b, off + j * 8 + 1 + 4, none⟩ = some (.slice PK pkids.length pc) ∧ X.cell? ⟨b, off + j * 8 + 1 + 5, none⟩ = some (.int .i64 pmn) ∧ X.cell? ⟨b, off + j * 8 + 1 + 6, none⟩ = some (.int .i64 pmx))
                (first | exact ⟨cell_keep hb5 (cell_keep hb4 (cell_keep hb3 (cell_keep hb2 g0))), cell_keep hb5 (cell_keep hb4 (cell_keep hb3 (cell_keep hb2 n0))), cell_keep hb5 (cell_keep hb4 (cell_keep hb3 (cell_keep hb2 c0))), cell_keep hb5 (cell_keep hb4 (cell_keep hb3 (cell_keep hb2 c1))), cell_keep hb5 (cell_keep hb4 (cell_keep hb3 (cell_keep hb2 c2))), cell_keep hb5 (cell_keep hb4 (cell_keep hb3 (cell_keep hb2 c3))), cell_keep hb5 (cell_keep hb4 (cell_keep hb3 (cell_keep hb2 c4))), cell_keep hb5 (cell_keep hb4 (cell_keep hb3 (cell_keep hb2 c5))), cell_keep hb5 (cell_keep hb4 (cell_keep hb3 (cell_keep hb2 c6)))⟩ | exact ⟨cell_keep hb4 (cell_keep hb3 (cell_keep hb2 g0)), cell_keep hb4 (cell_keep hb3 (cell_keep hb2 n0)), cell_keep hb4 (cell_keep hb3 (cell_keep hb2 c0)), cell_keep hb4 (cell_keep hb3 (cell_keep hb2 c1)), cell_keep hb4 (cell_keep hb3 (cell_keep hb2 c2)), cell_keep hb4 (cell_keep hb3 (cell_keep hb2 c3)), cell_keep hb4 (cell_keep hb3 (cell_keep hb2 c4)), cell_keep hb4 (cell_keep hb3 (cell_keep hb2 c5)), cell_keep hb4 (cell_keep hb3 (cell_keep hb2 c6))⟩ | exact ⟨cell_keep hb3 (cell_keep hb2 g0), cell_keep hb3 (cell_keep hb2 n0), cell_keep hb3 (cell_keep hb2 c0), cell_keep hb3 (cell_keep hb2 c1), cell_keep hb3 (cell_keep hb2 c2), cell_keep hb3 (cell_keep hb2 c3), cell_keep hb3 (cell_keep hb2 c4), cell_keep hb3 (cell_keep hb2 c5), cell_keep hb3 (cell_keep hb2 c6)⟩ | exact ⟨cell_keep hb2 g0, cell_keep hb2 n0, cell_keep hb2 c0, cell_keep hb2 c1, cell_keep hb2 c2, cell_keep hb2 c3, cell_keep hb2 c4, cell_keep hb2 c5, cell_keep hb2 c6⟩ | exact ⟨g0, n0, c0, c1, c2, c3, c4, c5, c6⟩)
                (first | (go_at_call 64; refine (HC1.out).mono ?_; rintro e w2 ⟨rfl, hb2⟩) | (go_at_call 65; refine (HC2.out w2 hb2).mono ?_; rintro e w3 ⟨rfl, hb3⟩) | (go_at_call 66; refine (HC3.out w3 (hb2.trans (hb3.mono hb2.size))).mono ?_; rintro e w4 ⟨rfl, hb4⟩) | (go_at_call 67; refine (HC4.out w4 ((hb2.trans (hb3.mono hb2.size)).trans (hb4.mono (hb2.trans (hb3.mono hb2.size)).size))).mono ?_; rintro e w5 ⟨rfl, hb5⟩))
              have hx2 : Below W0.heap.size W0 w2 := hb.drew.trans (hb2.mono hb.drew.size)
              have hx3 : Below W0.heap.size W0 w3 := hx2.trans (hb3.mono hx2.size)
              have hx4 : Below W0.heap.size W0 w4 := hx3.trans (hb4.mono hx3.size)
              have hx5 : Below W0.heap.size W0 w5 := hx4.trans (hb5.mono hx4.size)
              have hk4 : Below wr.heap.size wr w5 := by
                have hd : Below wr.heap.size wr wr.drew := (Below.refl _ _).drew
                exact (((hd.trans hb2).trans (hb3.mono hb2.size)).trans (hb4.mono (hb2.trans (hb3.mono hb2.size)).size)).trans (hb5.mono ((hb2.trans (hb3.mono hb2.size)).trans (hb4.mono (hb2.trans (hb3.mono hb2.size)).size)).size)
              have g0' := cell_keep hk4 g0
              have c0' := cell_keep hk4 c0
              have c1' := cell_keep hk4 c1
              have c2' := cell_keep hk4 c2
              have c3' := cell_keep hk4 c3
              have c4' := cell_keep hk4 c4
              have c5' := cell_keep hk4 c5
              have c6' := cell_keep hk4 c6
              have HS5 := Lib.hid (HSZ.out w5 hk4)
              have gl5 := cell_lt g0'
              simp only at gl5
              have hw1 : IntKind.i64.wrap ((x : Int) + (y : Int)) = (x : Int) + (y : Int) := IntWalk.i64_in _ (by omega)
              clear hb2 hb3 hb4 hb5 hk4 g0 n0 c0 c1 c2 c3 c4 c5 c6 hx2 hx3 hx4 HSZ HC1 HC2 HC3 HC4
              go_wp2_with fail
              refine HS5.out.mono ?_
              rintro e w6 ⟨rfl, hb6⟩
              have hx6 : Below W0.heap.size W0 w6 := hx5.trans (hb6.mono hx5.size)
              clear g0' c0' c1' c2' c3' c4' c5' c6' hb6 hx5 hb HS5
              go_wp2
              go_roundw
              case rel => exact ⟨j + 1, by omega, by go_num, by rw [HT.out]; rfl, HU3, hx6⟩
              case measure => simp [intOf]; omega

            · have HC4 : Hid (∀ w2, Below wr.drew.heap.size wr.drew w2 → Calls Try.prog 67 #[.agg #[.slice (some ⟨b, off, none⟩) rs.length c], .agg #[.int .i64 pk, .string pt, .slice PA plo.length pa, .slice PB phi.length pb, .slice PK pkids.length pc, .int .i64 pmn, .int .i64 pmx], .int .i64 8] w2 fun e w' => e = .returned (.bool false) ∧ Below w2.heap.size w2 w') := fun w2 h2 => BoolPost.no (HC4b.out w2 h2) q4

              have HNR : Hid (¬ GramP rs) := fun h => by obtain ⟨h1, h2, h3, h4, h5⟩ := HNO.out h; exact q4 ⟨h3, h4⟩
              clear q1 q2 q3 q4 HC1b HC3b HC4b HRX HNO HU HU2
              go_wp2
              go_region_held3 (fun X => X.cell? ⟨w.heap.size, 0, none⟩ = some (.slice (some ⟨b, off, none⟩) rs.length c) ∧ X.cell? ⟨b, off + j * 8, none⟩ = some (.string nm) ∧ X.cell? ⟨b, off + j * 8 + 1, none⟩ = some (.int .i64 pk) ∧ X.cell? ⟨b, off + j * 8 + 1 + 1, none⟩ = some (.string pt) ∧ X.cell? ⟨b, off + j * 8 + 1 + 2, none⟩ = some (.slice PA plo.length pa) ∧ X.cell? ⟨b, off + j * 8 + 1 + 3, none⟩ = some (.slice PB phi.length pb) ∧ X.cell? ⟨b, off + j * 8 + 1 + 4, none⟩ = some (.slice PK pkids.length pc) ∧ X.cell? ⟨b, off + j * 8 + 1 + 5, none⟩ = some (.int .i64 pmn) ∧ X.cell? ⟨b, off + j * 8 + 1 + 6, none⟩ = some (.int .i64 pmx))
                (first | exact ⟨cell_keep hb5 (cell_keep hb4 (cell_keep hb3 (cell_keep hb2 g0))), cell_keep hb5 (cell_keep hb4 (cell_keep hb3 (cell_keep hb2 n0))), cell_keep hb5 (cell_keep hb4 (cell_keep hb3 (cell_keep hb2 c0))), cell_keep hb5 (cell_keep hb4 (cell_keep hb3 (cell_keep hb2 c1))), cell_keep hb5 (cell_keep hb4 (cell_keep hb3 (cell_keep hb2 c2))), cell_keep hb5 (cell_keep hb4 (cell_keep hb3 (cell_keep hb2 c3))), cell_keep hb5 (cell_keep hb4 (cell_keep hb3 (cell_keep hb2 c4))), cell_keep hb5 (cell_keep hb4 (cell_keep hb3 (cell_keep hb2 c5))), cell_keep hb5 (cell_keep hb4 (cell_keep hb3 (cell_keep hb2 c6)))⟩ | exact ⟨cell_keep hb4 (cell_keep hb3 (cell_keep hb2 g0)), cell_keep hb4 (cell_keep hb3 (cell_keep hb2 n0)), cell_keep hb4 (cell_keep hb3 (cell_keep hb2 c0)), cell_keep hb4 (cell_keep hb3 (cell_keep hb2 c1)), cell_keep hb4 (cell_keep hb3 (cell_keep hb2 c2)), cell_keep hb4 (cell_keep hb3 (cell_keep hb2 c3)), cell_keep hb4 (cell_keep hb3 (cell_keep hb2 c4)), cell_keep hb4 (cell_keep hb3 (cell_keep hb2 c5)), cell_keep hb4 (cell_keep hb3 (cell_keep hb2 c6))⟩ | exact ⟨cell_keep hb3 (cell_keep hb2 g0), cell_keep hb3 (cell_keep hb2 n0), cell_keep hb3 (cell_keep hb2 c0), cell_keep hb3 (cell_keep hb2 c1), cell_keep hb3 (cell_keep hb2 c2), cell_keep hb3 (cell_keep hb2 c3), cell_keep hb3 (cell_keep hb2 c4), cell_keep hb3 (cell_keep hb2 c5), cell_keep hb3 (cell_keep hb2 c6)⟩ | exact ⟨cell_keep hb2 g0, cell_keep hb2 n0, cell_keep hb2 c0, cell_keep hb2 c1, cell_keep hb2 c2, cell_keep hb2 c3, cell_keep hb2 c4, cell_keep hb2 c5, cell_keep hb2 c6⟩ | exact ⟨g0, n0, c0, c1, c2, c3, c4, c5, c6⟩)
                (first | (go_at_call 64; refine (HC1.out).mono ?_; rintro e w2 ⟨rfl, hb2⟩) | (go_at_call 65; refine (HC2.out w2 hb2).mono ?_; rintro e w3 ⟨rfl, hb3⟩) | (go_at_call 66; refine (HC3.out w3 (hb2.trans (hb3.mono hb2.size))).mono ?_; rintro e w4 ⟨rfl, hb4⟩) | (go_at_call 67; refine (HC4.out w4 ((hb2.trans (hb3.mono hb2.size)).trans (hb4.mono (hb2.trans (hb3.mono hb2.size)).size))).mono ?_; rintro e w5 ⟨rfl, hb5⟩))
              have hx2 : Below W0.heap.size W0 w2 := hb.drew.trans (hb2.mono hb.drew.size)
              have hx3 : Below W0.heap.size W0 w3 := hx2.trans (hb3.mono hx2.size)
              have hx4 : Below W0.heap.size W0 w4 := hx3.trans (hb4.mono hx3.size)
              have hx5 : Below W0.heap.size W0 w5 := hx4.trans (hb5.mono hx4.size)
              have HBF := Lib.hid (HBX.out.trans (hx5.mono HBX.out.size))
              go_wp2
              go_ret
              exact ⟨false, rfl, iffF HNR.out, HBF.out⟩

          · have HC3 : Hid (∀ w2, Below wr.drew.heap.size wr.drew w2 → Calls Try.prog 66 #[.agg #[.int .i64 pk, .string pt, .slice PA plo.length pa, .slice PB phi.length pb, .slice PK pkids.length pc, .int .i64 pmn, .int .i64 pmx], .int .i64 8] w2 fun e w' => e = .returned (.bool false) ∧ Below w2.heap.size w2 w') := fun w2 h2 => BoolPost.no (HC3b.out w2 h2) q3

            have HNR : Hid (¬ GramP rs) := fun h => by obtain ⟨h1, h2, h3, h4, h5⟩ := HNO.out h; exact q3 ⟨h3, narrow_of 8 _ (by rw [ht_mk]; exact h3) (by rw [nodes_mk]; exact h5)⟩
            go_wp2
            refine wp_region_held_drew (S := (fun X => X.cell? ⟨w.heap.size, 0, none⟩ = some (.slice (some ⟨b, off, none⟩) rs.length c) ∧ X.cell? ⟨b, off + j * 8, none⟩ = some (.string nm) ∧ X.cell? ⟨b, off + j * 8 + 1, none⟩ = some (.int .i64 pk) ∧ X.cell? ⟨b, off + j * 8 + 1 + 1, none⟩ = some (.string pt) ∧ X.cell? ⟨b, off + j * 8 + 1 + 2, none⟩ = some (.slice PA plo.length pa) ∧ X.cell? ⟨b, off + j * 8 + 1 + 3, none⟩ = some (.slice PB phi.length pb) ∧ X.cell? ⟨b, off + j * 8 + 1 + 4, none⟩ = some (.slice PK pkids.length pc) ∧ X.cell? ⟨b, off + j * 8 + 1 + 5, none⟩ = some (.int .i64 pmn) ∧ X.cell? ⟨b, off + j * 8 + 1 + 6, none⟩ = some (.int .i64 pmx))) (by kernel_rfl) ?_ (fun hHeld => ?_)
            · exact ⟨g0, n0, c0, c1, c2, c3, c4, c5, c6⟩
            (first
              | (refine held_take (i := 0) (v := ?_) rfl (by kernel_rfl) (by kernel_rfl) (by kernel_rfl) (fun _ _ _ h => h) (Or.inl ⟨rfl, ?_⟩) (by assumption) ?_; rotate_left; (intro X hSw; (try dsimp only at hSw); (go_simp <;> with_reducible rfl)))
              | (refine held_take (i := 0) (v := undef) rfl (by kernel_rfl) (by kernel_rfl) (by kernel_rfl) (fun _ _ _ h => h) (Or.inr ⟨rfl, rfl⟩) (by assumption) ?_)); simp only [Act.put, List.setIfInBounds_toArray, List.set_cons_zero, List.set_cons_succ]
            (first
              | (refine held_take (i := 1) (v := ?_) rfl (by kernel_rfl) (by kernel_rfl) (by kernel_rfl) (fun _ _ _ h => h) (Or.inl ⟨rfl, ?_⟩) (by assumption) ?_; rotate_left; (intro X hSw; (try dsimp only at hSw); (go_simp <;> with_reducible rfl)))
              | (refine held_take (i := 1) (v := undef) rfl (by kernel_rfl) (by kernel_rfl) (by kernel_rfl) (fun _ _ _ h => h) (Or.inr ⟨rfl, rfl⟩) (by assumption) ?_)); simp only [Act.put, List.setIfInBounds_toArray, List.set_cons_zero, List.set_cons_succ]
            (first
              | (refine held_take (i := 2) (v := ?_) rfl (by kernel_rfl) (by kernel_rfl) (by kernel_rfl) (fun _ _ _ h => h) (Or.inl ⟨rfl, ?_⟩) (by assumption) ?_; rotate_left; (intro X hSw; (try dsimp only at hSw); (go_simp <;> with_reducible rfl)))
              | (refine held_take (i := 2) (v := undef) rfl (by kernel_rfl) (by kernel_rfl) (by kernel_rfl) (fun _ _ _ h => h) (Or.inr ⟨rfl, rfl⟩) (by assumption) ?_)); simp only [Act.put, List.setIfInBounds_toArray, List.set_cons_zero, List.set_cons_succ]
            (first
              | (refine held_take (i := 3) (v := ?_) rfl (by kernel_rfl) (by kernel_rfl) (by kernel_rfl) (fun _ _ _ h => h) (Or.inl ⟨rfl, ?_⟩) (by assumption) ?_; rotate_left; (intro X hSw; (try dsimp only at hSw); (go_simp <;> with_reducible rfl)))
              | (refine held_take (i := 3) (v := undef) rfl (by kernel_rfl) (by kernel_rfl) (by kernel_rfl) (fun _ _ _ h => h) (Or.inr ⟨rfl, rfl⟩) (by assumption) ?_)); simp only [Act.put, List.setIfInBounds_toArray, List.set_cons_zero, List.set_cons_succ]
            (first
              | (refine held_take (i := 4) (v := ?_) rfl (by kernel_rfl) (by kernel_rfl) (by kernel_rfl) (fun _ _ _ h => h) (Or.inl ⟨rfl, ?_⟩) (by assumption) ?_; rotate_left; (intro X hSw; (try dsimp only at hSw); (go_simp <;> with_reducible rfl)))
              | (refine held_take (i := 4) (v := undef) rfl (by kernel_rfl) (by kernel_rfl) (by kernel_rfl) (fun _ _ _ h => h) (Or.inr ⟨rfl, rfl⟩) (by assumption) ?_)); simp only [Act.put, List.setIfInBounds_toArray, List.set_cons_zero, List.set_cons_succ]
            (first
              | (refine held_take (i := 5) (v := ?_) rfl (by kernel_rfl) (by kernel_rfl) (by kernel_rfl) (fun _ _ _ h => h) (Or.inl ⟨rfl, ?_⟩) (by assumption) ?_; rotate_left; (intro X hSw; (try dsimp only at hSw); (go_simp <;> with_reducible rfl)))
              | (refine held_take (i := 5) (v := undef) rfl (by kernel_rfl) (by kernel_rfl) (by kernel_rfl) (fun _ _ _ h => h) (Or.inr ⟨rfl, rfl⟩) (by assumption) ?_)); simp only [Act.put, List.setIfInBounds_toArray, List.set_cons_zero, List.set_cons_succ]
            refine wpAnyH_ready (rs := [6]) (by kernel_rfl) (by simp) ?_
            refine AllReadyH.cons rfl (fun K hK => ?_) AllReadyH.nil
            go_simp
            go_wp2_with ((go_at_call 64; refine (HC1.out).mono ?_; rintro e w2 ⟨rfl, hb2⟩))
            refine hK.out _ _ ?_ (fun hHeld => ?_)
            · exact ⟨cell_keep hb2 g0, cell_keep hb2 n0, cell_keep hb2 c0, cell_keep hb2 c1, cell_keep hb2 c2, cell_keep hb2 c3, cell_keep hb2 c4, cell_keep hb2 c5, cell_keep hb2 c6⟩
            clear hK K
            (first
              | (refine held_take (i := 7) (v := ?_) rfl (by kernel_rfl) (by kernel_rfl) (by kernel_rfl) (fun _ _ _ h => h) (Or.inl ⟨rfl, ?_⟩) (by assumption) ?_; rotate_left; (intro X hSw; (try dsimp only at hSw); (go_simp <;> with_reducible rfl)))
              | (refine held_take (i := 7) (v := undef) rfl (by kernel_rfl) (by kernel_rfl) (by kernel_rfl) (fun _ _ _ h => h) (Or.inr ⟨rfl, rfl⟩) (by assumption) ?_)); simp only [Act.put, List.setIfInBounds_toArray, List.set_cons_zero, List.set_cons_succ]
            (first
              | (refine held_take (i := 8) (v := ?_) rfl (by kernel_rfl) (by kernel_rfl) (by kernel_rfl) (fun _ _ _ h => h) (Or.inl ⟨rfl, ?_⟩) (by assumption) ?_; rotate_left; (intro X hSw; (try dsimp only at hSw); (go_simp <;> with_reducible rfl)))
              | (refine held_take (i := 8) (v := undef) rfl (by kernel_rfl) (by kernel_rfl) (by kernel_rfl) (fun _ _ _ h => h) (Or.inr ⟨rfl, rfl⟩) (by assumption) ?_)); simp only [Act.put, List.setIfInBounds_toArray, List.set_cons_zero, List.set_cons_succ]
            (first
              | (refine held_take (i := 9) (v := ?_) rfl (by kernel_rfl) (by kernel_rfl) (by kernel_rfl) (fun _ _ _ h => h) (Or.inl ⟨rfl, ?_⟩) (by assumption) ?_; rotate_left; (intro X hSw; (try dsimp only at hSw); (go_simp <;> with_reducible rfl)))
              | (refine held_take (i := 9) (v := undef) rfl (by kernel_rfl) (by kernel_rfl) (by kernel_rfl) (fun _ _ _ h => h) (Or.inr ⟨rfl, rfl⟩) (by assumption) ?_)); simp only [Act.put, List.setIfInBounds_toArray, List.set_cons_zero, List.set_cons_succ]
            (first
              | (refine held_take (i := 10) (v := ?_) rfl (by kernel_rfl) (by kernel_rfl) (by kernel_rfl) (fun _ _ _ h => h) (Or.inl ⟨rfl, ?_⟩) (by assumption) ?_; rotate_left; (intro X hSw; (try dsimp only at hSw); (go_simp <;> with_reducible rfl)))
              | (refine held_take (i := 10) (v := undef) rfl (by kernel_rfl) (by kernel_rfl) (by kernel_rfl) (fun _ _ _ h => h) (Or.inr ⟨rfl, rfl⟩) (by assumption) ?_)); simp only [Act.put, List.setIfInBounds_toArray, List.set_cons_zero, List.set_cons_succ]
            (first
              | (refine held_take (i := 11) (v := ?_) rfl (by kernel_rfl) (by kernel_rfl) (by kernel_rfl) (fun _ _ _ h => h) (Or.inl ⟨rfl, ?_⟩) (by assumption) ?_; rotate_left; (intro X hSw; (try dsimp only at hSw); (go_simp <;> with_reducible rfl)))
              | (refine held_take (i := 11) (v := undef) rfl (by kernel_rfl) (by kernel_rfl) (by kernel_rfl) (fun _ _ _ h => h) (Or.inr ⟨rfl, rfl⟩) (by assumption) ?_)); simp only [Act.put, List.setIfInBounds_toArray, List.set_cons_zero, List.set_cons_succ]
            (first
              | (refine held_take (i := 12) (v := ?_) rfl (by kernel_rfl) (by kernel_rfl) (by kernel_rfl) (fun _ _ _ h => h) (Or.inl ⟨rfl, ?_⟩) (by assumption) ?_; rotate_left; (intro X hSw; (try dsimp only at hSw); (go_simp <;> with_reducible rfl)))
              | (refine held_take (i := 12) (v := undef) rfl (by kernel_rfl) (by kernel_rfl) (by kernel_rfl) (fun _ _ _ h => h) (Or.inr ⟨rfl, rfl⟩) (by assumption) ?_)); simp only [Act.put, List.setIfInBounds_toArray, List.set_cons_zero, List.set_cons_succ]
            (first
              | (refine held_take (i := 13) (v := ?_) rfl (by kernel_rfl) (by kernel_rfl) (by kernel_rfl) (fun _ _ _ h => h) (Or.inl ⟨rfl, ?_⟩) (by assumption) ?_; rotate_left; (intro X hSw; (try dsimp only at hSw); (go_simp <;> with_reducible rfl)))
              | (refine held_take (i := 13) (v := undef) rfl (by kernel_rfl) (by kernel_rfl) (by kernel_rfl) (fun _ _ _ h => h) (Or.inr ⟨rfl, rfl⟩) (by assumption) ?_)); simp only [Act.put, List.setIfInBounds_toArray, List.set_cons_zero, List.set_cons_succ]
            (first
              | (refine held_take (i := 14) (v := ?_) rfl (by kernel_rfl) (by kernel_rfl) (by kernel_rfl) (fun _ _ _ h => h) (Or.inl ⟨rfl, ?_⟩) (by assumption) ?_; rotate_left; (intro X hSw; (try dsimp only at hSw); (go_simp <;> with_reducible rfl)))
              | (refine held_take (i := 14) (v := undef) rfl (by kernel_rfl) (by kernel_rfl) (by kernel_rfl) (fun _ _ _ h => h) (Or.inr ⟨rfl, rfl⟩) (by assumption) ?_)); simp only [Act.put, List.setIfInBounds_toArray, List.set_cons_zero, List.set_cons_succ]
            (first
              | (refine held_take (i := 15) (v := ?_) rfl (by kernel_rfl) (by kernel_rfl) (by kernel_rfl) (fun _ _ _ h => h) (Or.inl ⟨rfl, ?_⟩) (by assumption) ?_; rotate_left; (intro X hSw; (try dsimp only at hSw); (go_simp <;> with_reducible rfl)))
              | (refine held_take (i := 15) (v := undef) rfl (by kernel_rfl) (by kernel_rfl) (by kernel_rfl) (fun _ _ _ h => h) (Or.inr ⟨rfl, rfl⟩) (by assumption) ?_)); simp only [Act.put, List.setIfInBounds_toArray, List.set_cons_zero, List.set_cons_succ]
            (first
              | (refine held_take (i := 17) (v := ?_) rfl (by kernel_rfl) (by kernel_rfl) (by kernel_rfl) (fun _ _ _ h => h) (Or.inl ⟨rfl, ?_⟩) (by assumption) ?_; rotate_left; (intro X hSw; (try dsimp only at hSw); (go_simp <;> with_reducible rfl)))
              | (refine held_take (i := 17) (v := undef) rfl (by kernel_rfl) (by kernel_rfl) (by kernel_rfl) (fun _ _ _ h => h) (Or.inr ⟨rfl, rfl⟩) (by assumption) ?_)); simp only [Act.put, List.setIfInBounds_toArray, List.set_cons_zero, List.set_cons_succ]
            refine wpAnyH_ready (rs := [16]) (by kernel_rfl) (by simp) ?_
            refine AllReadyH.cons rfl (fun K hK => ?_) AllReadyH.nil
            go_simp
            go_wp2_with ((go_at_call 65; refine (HC2.out w2 hb2).mono ?_; rintro e w3 ⟨rfl, hb3⟩))
            refine hK.out _ _ ?_ (fun hHeld => ?_)
            · exact ⟨cell_keep hb3 (cell_keep hb2 g0), cell_keep hb3 (cell_keep hb2 n0), cell_keep hb3 (cell_keep hb2 c0), cell_keep hb3 (cell_keep hb2 c1), cell_keep hb3 (cell_keep hb2 c2), cell_keep hb3 (cell_keep hb2 c3), cell_keep hb3 (cell_keep hb2 c4), cell_keep hb3 (cell_keep hb2 c5), cell_keep hb3 (cell_keep hb2 c6)⟩
            clear hK K
            (first
              | (refine held_take (i := 18) (v := ?_) rfl (by kernel_rfl) (by kernel_rfl) (by kernel_rfl) (fun _ _ _ h => h) (Or.inl ⟨rfl, ?_⟩) (by assumption) ?_; rotate_left; (intro X hSw; (try dsimp only at hSw); (go_simp <;> with_reducible rfl)))
              | (refine held_take (i := 18) (v := undef) rfl (by kernel_rfl) (by kernel_rfl) (by kernel_rfl) (fun _ _ _ h => h) (Or.inr ⟨rfl, rfl⟩) (by assumption) ?_)); simp only [Act.put, List.setIfInBounds_toArray, List.set_cons_zero, List.set_cons_succ]
            (first
              | (refine held_take (i := 19) (v := ?_) rfl (by kernel_rfl) (by kernel_rfl) (by kernel_rfl) (fun _ _ _ h => h) (Or.inl ⟨rfl, ?_⟩) (by assumption) ?_; rotate_left; (intro X hSw; (try dsimp only at hSw); (go_simp <;> with_reducible rfl)))
              | (refine held_take (i := 19) (v := undef) rfl (by kernel_rfl) (by kernel_rfl) (by kernel_rfl) (fun _ _ _ h => h) (Or.inr ⟨rfl, rfl⟩) (by assumption) ?_)); simp only [Act.put, List.setIfInBounds_toArray, List.set_cons_zero, List.set_cons_succ]
            (first
              | (refine held_take (i := 20) (v := ?_) rfl (by kernel_rfl) (by kernel_rfl) (by kernel_rfl) (fun _ _ _ h => h) (Or.inl ⟨rfl, ?_⟩) (by assumption) ?_; rotate_left; (intro X hSw; (try dsimp only at hSw); (go_simp <;> with_reducible rfl)))
              | (refine held_take (i := 20) (v := undef) rfl (by kernel_rfl) (by kernel_rfl) (by kernel_rfl) (fun _ _ _ h => h) (Or.inr ⟨rfl, rfl⟩) (by assumption) ?_)); simp only [Act.put, List.setIfInBounds_toArray, List.set_cons_zero, List.set_cons_succ]
            (first
              | (refine held_take (i := 21) (v := ?_) rfl (by kernel_rfl) (by kernel_rfl) (by kernel_rfl) (fun _ _ _ h => h) (Or.inl ⟨rfl, ?_⟩) (by assumption) ?_; rotate_left; (intro X hSw; (try dsimp only at hSw); (go_simp <;> with_reducible rfl)))
              | (refine held_take (i := 21) (v := undef) rfl (by kernel_rfl) (by kernel_rfl) (by kernel_rfl) (fun _ _ _ h => h) (Or.inr ⟨rfl, rfl⟩) (by assumption) ?_)); simp only [Act.put, List.setIfInBounds_toArray, List.set_cons_zero, List.set_cons_succ]
            (first
              | (refine held_take (i := 22) (v := ?_) rfl (by kernel_rfl) (by kernel_rfl) (by kernel_rfl) (fun _ _ _ h => h) (Or.inl ⟨rfl, ?_⟩) (by assumption) ?_; rotate_left; (intro X hSw; (try dsimp only at hSw); (go_simp <;> with_reducible rfl)))
              | (refine held_take (i := 22) (v := undef) rfl (by kernel_rfl) (by kernel_rfl) (by kernel_rfl) (fun _ _ _ h => h) (Or.inr ⟨rfl, rfl⟩) (by assumption) ?_)); simp only [Act.put, List.setIfInBounds_toArray, List.set_cons_zero, List.set_cons_succ]
            (first
              | (refine held_take (i := 23) (v := ?_) rfl (by kernel_rfl) (by kernel_rfl) (by kernel_rfl) (fun _ _ _ h => h) (Or.inl ⟨rfl, ?_⟩) (by assumption) ?_; rotate_left; (intro X hSw; (try dsimp only at hSw); (go_simp <;> with_reducible rfl)))
              | (refine held_take (i := 23) (v := undef) rfl (by kernel_rfl) (by kernel_rfl) (by kernel_rfl) (fun _ _ _ h => h) (Or.inr ⟨rfl, rfl⟩) (by assumption) ?_)); simp only [Act.put, List.setIfInBounds_toArray, List.set_cons_zero, List.set_cons_succ]
            (first
              | (refine held_take (i := 24) (v := ?_) rfl (by kernel_rfl) (by kernel_rfl) (by kernel_rfl) (fun _ _ _ h => h) (Or.inl ⟨rfl, ?_⟩) (by assumption) ?_; rotate_left; (intro X hSw; (try dsimp only at hSw); (go_simp <;> with_reducible rfl)))
              | (refine held_take (i := 24) (v := undef) rfl (by kernel_rfl) (by kernel_rfl) (by kernel_rfl) (fun _ _ _ h => h) (Or.inr ⟨rfl, rfl⟩) (by assumption) ?_)); simp only [Act.put, List.setIfInBounds_toArray, List.set_cons_zero, List.set_cons_succ]
            (first
              | (refine held_take (i := 25) (v := ?_) rfl (by kernel_rfl) (by kernel_rfl) (by kernel_rfl) (fun _ _ _ h => h) (Or.inl ⟨rfl, ?_⟩) (by assumption) ?_; rotate_left; (intro X hSw; (try dsimp only at hSw); (go_simp <;> with_reducible rfl)))
              | (refine held_take (i := 25) (v := undef) rfl (by kernel_rfl) (by kernel_rfl) (by kernel_rfl) (fun _ _ _ h => h) (Or.inr ⟨rfl, rfl⟩) (by assumption) ?_)); simp only [Act.put, List.setIfInBounds_toArray, List.set_cons_zero, List.set_cons_succ]
            (first
              | (refine held_take (i := 26) (v := ?_) rfl (by kernel_rfl) (by kernel_rfl) (by kernel_rfl) (fun _ _ _ h => h) (Or.inl ⟨rfl, ?_⟩) (by assumption) ?_; rotate_left; (intro X hSw; (try dsimp only at hSw); (go_simp <;> with_reducible rfl)))
              | (refine held_take (i := 26) (v := undef) rfl (by kernel_rfl) (by kernel_rfl) (by kernel_rfl) (fun _ _ _ h => h) (Or.inr ⟨rfl, rfl⟩) (by assumption) ?_)); simp only [Act.put, List.setIfInBounds_toArray, List.set_cons_zero, List.set_cons_succ]
            refine wpAnyH_ready (rs := [27]) (by kernel_rfl) (by simp) ?_
            refine AllReadyH.cons rfl (fun K hK => ?_) AllReadyH.nil
            go_simp
            go_wp2_with ((go_at_call 66; refine (HC3.out w3 (hb2.trans (hb3.mono hb2.size))).mono ?_; rintro e w4 ⟨rfl, hb4⟩))
            refine hK.out _ _ ?_ (fun hHeld => ?_)
            · exact ⟨cell_keep hb4 (cell_keep hb3 (cell_keep hb2 g0)), cell_keep hb4 (cell_keep hb3 (cell_keep hb2 n0)), cell_keep hb4 (cell_keep hb3 (cell_keep hb2 c0)), cell_keep hb4 (cell_keep hb3 (cell_keep hb2 c1)), cell_keep hb4 (cell_keep hb3 (cell_keep hb2 c2)), cell_keep hb4 (cell_keep hb3 (cell_keep hb2 c3)), cell_keep hb4 (cell_keep hb3 (cell_keep hb2 c4)), cell_keep hb4 (cell_keep hb3 (cell_keep hb2 c5)), cell_keep hb4 (cell_keep hb3 (cell_keep hb2 c6))⟩
            clear hK K
            (first
              | (refine held_take (i := 28) (v := ?_) rfl (by kernel_rfl) (by kernel_rfl) (by kernel_rfl) (fun _ _ _ h => h) (Or.inl ⟨rfl, ?_⟩) (by assumption) ?_; rotate_left; (intro X hSw; (try dsimp only at hSw); (go_simp <;> with_reducible rfl)))
              | (refine held_take (i := 28) (v := undef) rfl (by kernel_rfl) (by kernel_rfl) (by kernel_rfl) (fun _ _ _ h => h) (Or.inr ⟨rfl, rfl⟩) (by assumption) ?_)); simp only [Act.put, List.setIfInBounds_toArray, List.set_cons_zero, List.set_cons_succ]
            (first
              | (refine held_take (i := 29) (v := ?_) rfl (by kernel_rfl) (by kernel_rfl) (by kernel_rfl) (fun _ _ _ h => h) (Or.inl ⟨rfl, ?_⟩) (by assumption) ?_; rotate_left; (intro X hSw; (try dsimp only at hSw); (go_simp <;> with_reducible rfl)))
              | (refine held_take (i := 29) (v := undef) rfl (by kernel_rfl) (by kernel_rfl) (by kernel_rfl) (fun _ _ _ h => h) (Or.inr ⟨rfl, rfl⟩) (by assumption) ?_)); simp only [Act.put, List.setIfInBounds_toArray, List.set_cons_zero, List.set_cons_succ]
            (first
              | (refine held_take (i := 30) (v := ?_) rfl (by kernel_rfl) (by kernel_rfl) (by kernel_rfl) (fun _ _ _ h => h) (Or.inl ⟨rfl, ?_⟩) (by assumption) ?_; rotate_left; (intro X hSw; (try dsimp only at hSw); (go_simp <;> with_reducible rfl)))
              | (refine held_take (i := 30) (v := undef) rfl (by kernel_rfl) (by kernel_rfl) (by kernel_rfl) (fun _ _ _ h => h) (Or.inr ⟨rfl, rfl⟩) (by assumption) ?_)); simp only [Act.put, List.setIfInBounds_toArray, List.set_cons_zero, List.set_cons_succ]
            (first
              | (refine held_take (i := 31) (v := ?_) rfl (by kernel_rfl) (by kernel_rfl) (by kernel_rfl) (fun _ _ _ h => h) (Or.inl ⟨rfl, ?_⟩) (by assumption) ?_; rotate_left; (intro X hSw; (try dsimp only at hSw); (go_simp <;> with_reducible rfl)))
              | (refine held_take (i := 31) (v := undef) rfl (by kernel_rfl) (by kernel_rfl) (by kernel_rfl) (fun _ _ _ h => h) (Or.inr ⟨rfl, rfl⟩) (by assumption) ?_)); simp only [Act.put, List.setIfInBounds_toArray, List.set_cons_zero, List.set_cons_succ]
            (first
              | (refine held_take (i := 32) (v := ?_) rfl (by kernel_rfl) (by kernel_rfl) (by kernel_rfl) (fun _ _ _ h => h) (Or.inl ⟨rfl, ?_⟩) (by assumption) ?_; rotate_left; (intro X hSw; (try dsimp only at hSw); (go_simp <;> with_reducible rfl)))
              | (refine held_take (i := 32) (v := undef) rfl (by kernel_rfl) (by kernel_rfl) (by kernel_rfl) (fun _ _ _ h => h) (Or.inr ⟨rfl, rfl⟩) (by assumption) ?_)); simp only [Act.put, List.setIfInBounds_toArray, List.set_cons_zero, List.set_cons_succ]
            (first
              | (refine held_take (i := 33) (v := ?_) rfl (by kernel_rfl) (by kernel_rfl) (by kernel_rfl) (fun _ _ _ h => h) (Or.inl ⟨rfl, ?_⟩) (by assumption) ?_; rotate_left; (intro X hSw; (try dsimp only at hSw); (go_simp <;> with_reducible rfl)))
              | (refine held_take (i := 33) (v := undef) rfl (by kernel_rfl) (by kernel_rfl) (by kernel_rfl) (fun _ _ _ h => h) (Or.inr ⟨rfl, rfl⟩) (by assumption) ?_)); simp only [Act.put, List.setIfInBounds_toArray, List.set_cons_zero, List.set_cons_succ]
            (first
              | (refine held_take (i := 34) (v := ?_) rfl (by kernel_rfl) (by kernel_rfl) (by kernel_rfl) (fun _ _ _ h => h) (Or.inl ⟨rfl, ?_⟩) (by assumption) ?_; rotate_left; (intro X hSw; (try dsimp only at hSw); (go_simp <;> with_reducible rfl)))
              | (refine held_take (i := 34) (v := undef) rfl (by kernel_rfl) (by kernel_rfl) (by kernel_rfl) (fun _ _ _ h => h) (Or.inr ⟨rfl, rfl⟩) (by assumption) ?_)); simp only [Act.put, List.setIfInBounds_toArray, List.set_cons_zero, List.set_cons_succ]
            (first
              | (refine held_take (i := 35) (v := ?_) rfl (by kernel_rfl) (by kernel_rfl) (by kernel_rfl) (fun _ _ _ h => h) (Or.inl ⟨rfl, ?_⟩) (by assumption) ?_; rotate_left; (intro X hSw; (try dsimp only at hSw); (go_simp <;> with_reducible rfl)))
              | (refine held_take (i := 35) (v := undef) rfl (by kernel_rfl) (by kernel_rfl) (by kernel_rfl) (fun _ _ _ h => h) (Or.inr ⟨rfl, rfl⟩) (by assumption) ?_)); simp only [Act.put, List.setIfInBounds_toArray, List.set_cons_zero, List.set_cons_succ]
            (first
              | (refine held_take (i := 36) (v := ?_) rfl (by kernel_rfl) (by kernel_rfl) (by kernel_rfl) (fun _ _ _ h => h) (Or.inl ⟨rfl, ?_⟩) (by assumption) ?_; rotate_left; (intro X hSw; (try dsimp only at hSw); (go_simp <;> with_reducible rfl)))
              | (refine held_take (i := 36) (v := undef) rfl (by kernel_rfl) (by kernel_rfl) (by kernel_rfl) (fun _ _ _ h => h) (Or.inr ⟨rfl, rfl⟩) (by assumption) ?_)); simp only [Act.put, List.setIfInBounds_toArray, List.set_cons_zero, List.set_cons_succ]
            (first
              | (refine held_take (i := 37) (v := ?_) rfl (by kernel_rfl) (by kernel_rfl) (by kernel_rfl) (fun _ _ _ h => h) (Or.inl ⟨rfl, ?_⟩) (by assumption) ?_; rotate_left; (intro X hSw; (try dsimp only at hSw); (go_simp <;> with_reducible rfl)))
              | (refine held_take (i := 37) (v := undef) rfl (by kernel_rfl) (by kernel_rfl) (by kernel_rfl) (fun _ _ _ h => h) (Or.inr ⟨rfl, rfl⟩) (by assumption) ?_)); simp only [Act.put, List.setIfInBounds_toArray, List.set_cons_zero, List.set_cons_succ]
            (first
              | (refine held_take (i := 38) (v := ?_) rfl (by kernel_rfl) (by kernel_rfl) (by kernel_rfl) (fun _ _ _ h => h) (Or.inl ⟨rfl, ?_⟩) (by assumption) ?_; rotate_left; (intro X hSw; (try dsimp only at hSw); (go_simp <;> with_reducible rfl)))
              | (refine held_take (i := 38) (v := undef) rfl (by kernel_rfl) (by kernel_rfl) (by kernel_rfl) (fun _ _ _ h => h) (Or.inr ⟨rfl, rfl⟩) (by assumption) ?_)); simp only [Act.put, List.setIfInBounds_toArray, List.set_cons_zero, List.set_cons_succ]
            (first
              | (refine held_take (i := 39) (v := ?_) rfl (by kernel_rfl) (by kernel_rfl) (by kernel_rfl) (fun _ _ _ h => h) (Or.inl ⟨rfl, ?_⟩) (by assumption) ?_; rotate_left; (intro X hSw; (try dsimp only at hSw); (go_simp <;> with_reducible rfl)))
              | (refine held_take (i := 39) (v := undef) rfl (by kernel_rfl) (by kernel_rfl) (by kernel_rfl) (fun _ _ _ h => h) (Or.inr ⟨rfl, rfl⟩) (by assumption) ?_)); simp only [Act.put, List.setIfInBounds_toArray, List.set_cons_zero, List.set_cons_succ]
            (first
              | (refine held_take (i := 40) (v := ?_) rfl (by kernel_rfl) (by kernel_rfl) (by kernel_rfl) (fun _ _ _ h => h) (Or.inl ⟨rfl, ?_⟩) (by assumption) ?_; rotate_left; (intro X hSw; (try dsimp only at hSw); (go_simp <;> with_reducible rfl)))
              | (refine held_take (i := 40) (v := undef) rfl (by kernel_rfl) (by kernel_rfl) (by kernel_rfl) (fun _ _ _ h => h) (Or.inr ⟨rfl, rfl⟩) (by assumption) ?_)); simp only [Act.put, List.setIfInBounds_toArray, List.set_cons_zero, List.set_cons_succ]
            refine wpAnyH_done (by kernel_rfl) ?_ _
            have hx2 : Below W0.heap.size W0 w2 := hb.drew.trans (hb2.mono hb.drew.size)
            have hx3 : Below W0.heap.size W0 w3 := hx2.trans (hb3.mono hx2.size)
            have hx4 : Below W0.heap.size W0 w4 := hx3.trans (hb4.mono hx3.size)
            have HBF := Lib.hid (HBX.out.trans (hx4.mono HBX.out.size))
            go_wp2
            go_ret
            exact ⟨false, rfl, iffF HNR.out, HBF.out⟩

        · have e2 : (r != (j : Int)) = true := by simp [q2]

          have HNR : Hid (¬ GramP rs) := fun h => by obtain ⟨h1, h2, h3, h4, h5⟩ := HNO.out h; exact q2 (HRX.out.one h2)
          go_wp2
          refine wp_region_held_drew (S := (fun X => X.cell? ⟨w.heap.size, 0, none⟩ = some (.slice (some ⟨b, off, none⟩) rs.length c) ∧ X.cell? ⟨b, off + j * 8, none⟩ = some (.string nm) ∧ X.cell? ⟨b, off + j * 8 + 1, none⟩ = some (.int .i64 pk) ∧ X.cell? ⟨b, off + j * 8 + 1 + 1, none⟩ = some (.string pt) ∧ X.cell? ⟨b, off + j * 8 + 1 + 2, none⟩ = some (.slice PA plo.length pa) ∧ X.cell? ⟨b, off + j * 8 + 1 + 3, none⟩ = some (.slice PB phi.length pb) ∧ X.cell? ⟨b, off + j * 8 + 1 + 4, none⟩ = some (.slice PK pkids.length pc) ∧ X.cell? ⟨b, off + j * 8 + 1 + 5, none⟩ = some (.int .i64 pmn) ∧ X.cell? ⟨b, off + j * 8 + 1 + 6, none⟩ = some (.int .i64 pmx))) (by kernel_rfl) ?_ (fun hHeld => ?_)
          · exact ⟨g0, n0, c0, c1, c2, c3, c4, c5, c6⟩
          (first
            | (refine held_take (i := 0) (v := ?_) rfl (by kernel_rfl) (by kernel_rfl) (by kernel_rfl) (fun _ _ _ h => h) (Or.inl ⟨rfl, ?_⟩) (by assumption) ?_; rotate_left; (intro X hSw; (try dsimp only at hSw); (go_simp <;> with_reducible rfl)))
            | (refine held_take (i := 0) (v := undef) rfl (by kernel_rfl) (by kernel_rfl) (by kernel_rfl) (fun _ _ _ h => h) (Or.inr ⟨rfl, rfl⟩) (by assumption) ?_)); simp only [Act.put, List.setIfInBounds_toArray, List.set_cons_zero, List.set_cons_succ]
          (first
            | (refine held_take (i := 1) (v := ?_) rfl (by kernel_rfl) (by kernel_rfl) (by kernel_rfl) (fun _ _ _ h => h) (Or.inl ⟨rfl, ?_⟩) (by assumption) ?_; rotate_left; (intro X hSw; (try dsimp only at hSw); (go_simp <;> with_reducible rfl)))
            | (refine held_take (i := 1) (v := undef) rfl (by kernel_rfl) (by kernel_rfl) (by kernel_rfl) (fun _ _ _ h => h) (Or.inr ⟨rfl, rfl⟩) (by assumption) ?_)); simp only [Act.put, List.setIfInBounds_toArray, List.set_cons_zero, List.set_cons_succ]
          (first
            | (refine held_take (i := 2) (v := ?_) rfl (by kernel_rfl) (by kernel_rfl) (by kernel_rfl) (fun _ _ _ h => h) (Or.inl ⟨rfl, ?_⟩) (by assumption) ?_; rotate_left; (intro X hSw; (try dsimp only at hSw); (go_simp <;> with_reducible rfl)))
            | (refine held_take (i := 2) (v := undef) rfl (by kernel_rfl) (by kernel_rfl) (by kernel_rfl) (fun _ _ _ h => h) (Or.inr ⟨rfl, rfl⟩) (by assumption) ?_)); simp only [Act.put, List.setIfInBounds_toArray, List.set_cons_zero, List.set_cons_succ]
          (first
            | (refine held_take (i := 3) (v := ?_) rfl (by kernel_rfl) (by kernel_rfl) (by kernel_rfl) (fun _ _ _ h => h) (Or.inl ⟨rfl, ?_⟩) (by assumption) ?_; rotate_left; (intro X hSw; (try dsimp only at hSw); (go_simp <;> with_reducible rfl)))
            | (refine held_take (i := 3) (v := undef) rfl (by kernel_rfl) (by kernel_rfl) (by kernel_rfl) (fun _ _ _ h => h) (Or.inr ⟨rfl, rfl⟩) (by assumption) ?_)); simp only [Act.put, List.setIfInBounds_toArray, List.set_cons_zero, List.set_cons_succ]
          (first
            | (refine held_take (i := 4) (v := ?_) rfl (by kernel_rfl) (by kernel_rfl) (by kernel_rfl) (fun _ _ _ h => h) (Or.inl ⟨rfl, ?_⟩) (by assumption) ?_; rotate_left; (intro X hSw; (try dsimp only at hSw); (go_simp <;> with_reducible rfl)))
            | (refine held_take (i := 4) (v := undef) rfl (by kernel_rfl) (by kernel_rfl) (by kernel_rfl) (fun _ _ _ h => h) (Or.inr ⟨rfl, rfl⟩) (by assumption) ?_)); simp only [Act.put, List.setIfInBounds_toArray, List.set_cons_zero, List.set_cons_succ]
          (first
            | (refine held_take (i := 5) (v := ?_) rfl (by kernel_rfl) (by kernel_rfl) (by kernel_rfl) (fun _ _ _ h => h) (Or.inl ⟨rfl, ?_⟩) (by assumption) ?_; rotate_left; (intro X hSw; (try dsimp only at hSw); (go_simp <;> with_reducible rfl)))
            | (refine held_take (i := 5) (v := undef) rfl (by kernel_rfl) (by kernel_rfl) (by kernel_rfl) (fun _ _ _ h => h) (Or.inr ⟨rfl, rfl⟩) (by assumption) ?_)); simp only [Act.put, List.setIfInBounds_toArray, List.set_cons_zero, List.set_cons_succ]
          refine wpAnyH_ready (rs := [6]) (by kernel_rfl) (by simp) ?_
          refine AllReadyH.cons rfl (fun K hK => ?_) AllReadyH.nil
          go_simp
          go_wp2_with ((go_at_call 64; refine (HC1.out).mono ?_; rintro e w2 ⟨rfl, hb2⟩))
          refine hK.out _ _ ?_ (fun hHeld => ?_)
          · exact ⟨cell_keep hb2 g0, cell_keep hb2 n0, cell_keep hb2 c0, cell_keep hb2 c1, cell_keep hb2 c2, cell_keep hb2 c3, cell_keep hb2 c4, cell_keep hb2 c5, cell_keep hb2 c6⟩
          clear hK K
          (first
            | (refine held_take (i := 7) (v := ?_) rfl (by kernel_rfl) (by kernel_rfl) (by kernel_rfl) (fun _ _ _ h => h) (Or.inl ⟨rfl, ?_⟩) (by assumption) ?_; rotate_left; (intro X hSw; (try dsimp only at hSw); (go_simp <;> with_reducible rfl)))
            | (refine held_take (i := 7) (v := undef) rfl (by kernel_rfl) (by kernel_rfl) (by kernel_rfl) (fun _ _ _ h => h) (Or.inr ⟨rfl, rfl⟩) (by assumption) ?_)); simp only [Act.put, List.setIfInBounds_toArray, List.set_cons_zero, List.set_cons_succ]
          (first
            | (refine held_take (i := 8) (v := ?_) rfl (by kernel_rfl) (by kernel_rfl) (by kernel_rfl) (fun _ _ _ h => h) (Or.inl ⟨rfl, ?_⟩) (by assumption) ?_; rotate_left; (intro X hSw; (try dsimp only at hSw); (go_simp <;> with_reducible rfl)))
            | (refine held_take (i := 8) (v := undef) rfl (by kernel_rfl) (by kernel_rfl) (by kernel_rfl) (fun _ _ _ h => h) (Or.inr ⟨rfl, rfl⟩) (by assumption) ?_)); simp only [Act.put, List.setIfInBounds_toArray, List.set_cons_zero, List.set_cons_succ]
          (first
            | (refine held_take (i := 9) (v := ?_) rfl (by kernel_rfl) (by kernel_rfl) (by kernel_rfl) (fun _ _ _ h => h) (Or.inl ⟨rfl, ?_⟩) (by assumption) ?_; rotate_left; (intro X hSw; (try dsimp only at hSw); (go_simp <;> with_reducible rfl)))
            | (refine held_take (i := 9) (v := undef) rfl (by kernel_rfl) (by kernel_rfl) (by kernel_rfl) (fun _ _ _ h => h) (Or.inr ⟨rfl, rfl⟩) (by assumption) ?_)); simp only [Act.put, List.setIfInBounds_toArray, List.set_cons_zero, List.set_cons_succ]
          (first
            | (refine held_take (i := 10) (v := ?_) rfl (by kernel_rfl) (by kernel_rfl) (by kernel_rfl) (fun _ _ _ h => h) (Or.inl ⟨rfl, ?_⟩) (by assumption) ?_; rotate_left; (intro X hSw; (try dsimp only at hSw); (go_simp <;> with_reducible rfl)))
            | (refine held_take (i := 10) (v := undef) rfl (by kernel_rfl) (by kernel_rfl) (by kernel_rfl) (fun _ _ _ h => h) (Or.inr ⟨rfl, rfl⟩) (by assumption) ?_)); simp only [Act.put, List.setIfInBounds_toArray, List.set_cons_zero, List.set_cons_succ]
          (first
            | (refine held_take (i := 11) (v := ?_) rfl (by kernel_rfl) (by kernel_rfl) (by kernel_rfl) (fun _ _ _ h => h) (Or.inl ⟨rfl, ?_⟩) (by assumption) ?_; rotate_left; (intro X hSw; (try dsimp only at hSw); (go_simp <;> with_reducible rfl)))
            | (refine held_take (i := 11) (v := undef) rfl (by kernel_rfl) (by kernel_rfl) (by kernel_rfl) (fun _ _ _ h => h) (Or.inr ⟨rfl, rfl⟩) (by assumption) ?_)); simp only [Act.put, List.setIfInBounds_toArray, List.set_cons_zero, List.set_cons_succ]
          (first
            | (refine held_take (i := 12) (v := ?_) rfl (by kernel_rfl) (by kernel_rfl) (by kernel_rfl) (fun _ _ _ h => h) (Or.inl ⟨rfl, ?_⟩) (by assumption) ?_; rotate_left; (intro X hSw; (try dsimp only at hSw); (go_simp <;> with_reducible rfl)))
            | (refine held_take (i := 12) (v := undef) rfl (by kernel_rfl) (by kernel_rfl) (by kernel_rfl) (fun _ _ _ h => h) (Or.inr ⟨rfl, rfl⟩) (by assumption) ?_)); simp only [Act.put, List.setIfInBounds_toArray, List.set_cons_zero, List.set_cons_succ]
          (first
            | (refine held_take (i := 13) (v := ?_) rfl (by kernel_rfl) (by kernel_rfl) (by kernel_rfl) (fun _ _ _ h => h) (Or.inl ⟨rfl, ?_⟩) (by assumption) ?_; rotate_left; (intro X hSw; (try dsimp only at hSw); (go_simp <;> with_reducible rfl)))
            | (refine held_take (i := 13) (v := undef) rfl (by kernel_rfl) (by kernel_rfl) (by kernel_rfl) (fun _ _ _ h => h) (Or.inr ⟨rfl, rfl⟩) (by assumption) ?_)); simp only [Act.put, List.setIfInBounds_toArray, List.set_cons_zero, List.set_cons_succ]
          (first
            | (refine held_take (i := 14) (v := ?_) rfl (by kernel_rfl) (by kernel_rfl) (by kernel_rfl) (fun _ _ _ h => h) (Or.inl ⟨rfl, ?_⟩) (by assumption) ?_; rotate_left; (intro X hSw; (try dsimp only at hSw); (go_simp <;> with_reducible rfl)))
            | (refine held_take (i := 14) (v := undef) rfl (by kernel_rfl) (by kernel_rfl) (by kernel_rfl) (fun _ _ _ h => h) (Or.inr ⟨rfl, rfl⟩) (by assumption) ?_)); simp only [Act.put, List.setIfInBounds_toArray, List.set_cons_zero, List.set_cons_succ]
          (first
            | (refine held_take (i := 15) (v := ?_) rfl (by kernel_rfl) (by kernel_rfl) (by kernel_rfl) (fun _ _ _ h => h) (Or.inl ⟨rfl, ?_⟩) (by assumption) ?_; rotate_left; (intro X hSw; (try dsimp only at hSw); (go_simp <;> with_reducible rfl)))
            | (refine held_take (i := 15) (v := undef) rfl (by kernel_rfl) (by kernel_rfl) (by kernel_rfl) (fun _ _ _ h => h) (Or.inr ⟨rfl, rfl⟩) (by assumption) ?_)); simp only [Act.put, List.setIfInBounds_toArray, List.set_cons_zero, List.set_cons_succ]
          (first
            | (refine held_take (i := 17) (v := ?_) rfl (by kernel_rfl) (by kernel_rfl) (by kernel_rfl) (fun _ _ _ h => h) (Or.inl ⟨rfl, ?_⟩) (by assumption) ?_; rotate_left; (intro X hSw; (try dsimp only at hSw); (go_simp <;> with_reducible rfl)))
            | (refine held_take (i := 17) (v := undef) rfl (by kernel_rfl) (by kernel_rfl) (by kernel_rfl) (fun _ _ _ h => h) (Or.inr ⟨rfl, rfl⟩) (by assumption) ?_)); simp only [Act.put, List.setIfInBounds_toArray, List.set_cons_zero, List.set_cons_succ]
          refine wpAnyH_ready (rs := [16]) (by kernel_rfl) (by simp) ?_
          refine AllReadyH.cons rfl (fun K hK => ?_) AllReadyH.nil
          go_simp
          go_wp2_with ((go_at_call 65; refine (HC2.out w2 hb2).mono ?_; rintro e w3 ⟨rfl, hb3⟩))
          refine hK.out _ _ ?_ (fun hHeld => ?_)
          · exact ⟨cell_keep hb3 (cell_keep hb2 g0), cell_keep hb3 (cell_keep hb2 n0), cell_keep hb3 (cell_keep hb2 c0), cell_keep hb3 (cell_keep hb2 c1), cell_keep hb3 (cell_keep hb2 c2), cell_keep hb3 (cell_keep hb2 c3), cell_keep hb3 (cell_keep hb2 c4), cell_keep hb3 (cell_keep hb2 c5), cell_keep hb3 (cell_keep hb2 c6)⟩
          clear hK K
          (first
            | (refine held_take (i := 18) (v := ?_) rfl (by kernel_rfl) (by kernel_rfl) (by kernel_rfl) (fun _ _ _ h => h) (Or.inl ⟨rfl, ?_⟩) (by assumption) ?_; rotate_left; (intro X hSw; (try dsimp only at hSw); (go_simp <;> with_reducible rfl)))
            | (refine held_take (i := 18) (v := undef) rfl (by kernel_rfl) (by kernel_rfl) (by kernel_rfl) (fun _ _ _ h => h) (Or.inr ⟨rfl, rfl⟩) (by assumption) ?_)); simp only [Act.put, List.setIfInBounds_toArray, List.set_cons_zero, List.set_cons_succ]
          (first
            | (refine held_take (i := 19) (v := ?_) rfl (by kernel_rfl) (by kernel_rfl) (by kernel_rfl) (fun _ _ _ h => h) (Or.inl ⟨rfl, ?_⟩) (by assumption) ?_; rotate_left; (intro X hSw; (try dsimp only at hSw); (go_simp <;> with_reducible rfl)))
            | (refine held_take (i := 19) (v := undef) rfl (by kernel_rfl) (by kernel_rfl) (by kernel_rfl) (fun _ _ _ h => h) (Or.inr ⟨rfl, rfl⟩) (by assumption) ?_)); simp only [Act.put, List.setIfInBounds_toArray, List.set_cons_zero, List.set_cons_succ]
          (first
            | (refine held_take (i := 20) (v := ?_) rfl (by kernel_rfl) (by kernel_rfl) (by kernel_rfl) (fun _ _ _ h => h) (Or.inl ⟨rfl, ?_⟩) (by assumption) ?_; rotate_left; (intro X hSw; (try dsimp only at hSw); (go_simp <;> with_reducible rfl)))
            | (refine held_take (i := 20) (v := undef) rfl (by kernel_rfl) (by kernel_rfl) (by kernel_rfl) (fun _ _ _ h => h) (Or.inr ⟨rfl, rfl⟩) (by assumption) ?_)); simp only [Act.put, List.setIfInBounds_toArray, List.set_cons_zero, List.set_cons_succ]
          (first
            | (refine held_take (i := 21) (v := ?_) rfl (by kernel_rfl) (by kernel_rfl) (by kernel_rfl) (fun _ _ _ h => h) (Or.inl ⟨rfl, ?_⟩) (by assumption) ?_; rotate_left; (intro X hSw; (try dsimp only at hSw); (go_simp <;> with_reducible rfl)))
            | (refine held_take (i := 21) (v := undef) rfl (by kernel_rfl) (by kernel_rfl) (by kernel_rfl) (fun _ _ _ h => h) (Or.inr ⟨rfl, rfl⟩) (by assumption) ?_)); simp only [Act.put, List.setIfInBounds_toArray, List.set_cons_zero, List.set_cons_succ]
          (first
            | (refine held_take (i := 22) (v := ?_) rfl (by kernel_rfl) (by kernel_rfl) (by kernel_rfl) (fun _ _ _ h => h) (Or.inl ⟨rfl, ?_⟩) (by assumption) ?_; rotate_left; (intro X hSw; (try dsimp only at hSw); (go_simp <;> with_reducible rfl)))
            | (refine held_take (i := 22) (v := undef) rfl (by kernel_rfl) (by kernel_rfl) (by kernel_rfl) (fun _ _ _ h => h) (Or.inr ⟨rfl, rfl⟩) (by assumption) ?_)); simp only [Act.put, List.setIfInBounds_toArray, List.set_cons_zero, List.set_cons_succ]
          (first
            | (refine held_take (i := 23) (v := ?_) rfl (by kernel_rfl) (by kernel_rfl) (by kernel_rfl) (fun _ _ _ h => h) (Or.inl ⟨rfl, ?_⟩) (by assumption) ?_; rotate_left; (intro X hSw; (try dsimp only at hSw); (go_simp <;> with_reducible rfl)))
            | (refine held_take (i := 23) (v := undef) rfl (by kernel_rfl) (by kernel_rfl) (by kernel_rfl) (fun _ _ _ h => h) (Or.inr ⟨rfl, rfl⟩) (by assumption) ?_)); simp only [Act.put, List.setIfInBounds_toArray, List.set_cons_zero, List.set_cons_succ]
          (first
            | (refine held_take (i := 24) (v := ?_) rfl (by kernel_rfl) (by kernel_rfl) (by kernel_rfl) (fun _ _ _ h => h) (Or.inl ⟨rfl, ?_⟩) (by assumption) ?_; rotate_left; (intro X hSw; (try dsimp only at hSw); (go_simp <;> with_reducible rfl)))
            | (refine held_take (i := 24) (v := undef) rfl (by kernel_rfl) (by kernel_rfl) (by kernel_rfl) (fun _ _ _ h => h) (Or.inr ⟨rfl, rfl⟩) (by assumption) ?_)); simp only [Act.put, List.setIfInBounds_toArray, List.set_cons_zero, List.set_cons_succ]
          (first
            | (refine held_take (i := 25) (v := ?_) rfl (by kernel_rfl) (by kernel_rfl) (by kernel_rfl) (fun _ _ _ h => h) (Or.inl ⟨rfl, ?_⟩) (by assumption) ?_; rotate_left; (intro X hSw; (try dsimp only at hSw); (go_simp <;> with_reducible rfl)))
            | (refine held_take (i := 25) (v := undef) rfl (by kernel_rfl) (by kernel_rfl) (by kernel_rfl) (fun _ _ _ h => h) (Or.inr ⟨rfl, rfl⟩) (by assumption) ?_)); simp only [Act.put, List.setIfInBounds_toArray, List.set_cons_zero, List.set_cons_succ]
          (first
            | (refine held_take (i := 26) (v := ?_) rfl (by kernel_rfl) (by kernel_rfl) (by kernel_rfl) (fun _ _ _ h => h) (Or.inl ⟨rfl, ?_⟩) (by assumption) ?_; rotate_left; (intro X hSw; (try dsimp only at hSw); (go_simp <;> with_reducible rfl)))
            | (refine held_take (i := 26) (v := undef) rfl (by kernel_rfl) (by kernel_rfl) (by kernel_rfl) (fun _ _ _ h => h) (Or.inr ⟨rfl, rfl⟩) (by assumption) ?_)); simp only [Act.put, List.setIfInBounds_toArray, List.set_cons_zero, List.set_cons_succ]
          (first
            | (refine held_take (i := 27) (v := ?_) rfl (by kernel_rfl) (by kernel_rfl) (by kernel_rfl) (fun _ _ _ h => h) (Or.inl ⟨rfl, ?_⟩) (by assumption) ?_; rotate_left; (intro X hSw; (try dsimp only at hSw); (go_simp <;> with_reducible rfl)))
            | (refine held_take (i := 27) (v := undef) rfl (by kernel_rfl) (by kernel_rfl) (by kernel_rfl) (fun _ _ _ h => h) (Or.inr ⟨rfl, rfl⟩) (by assumption) ?_)); simp only [Act.put, List.setIfInBounds_toArray, List.set_cons_zero, List.set_cons_succ]
          (first
            | (refine held_take (i := 28) (v := ?_) rfl (by kernel_rfl) (by kernel_rfl) (by kernel_rfl) (fun _ _ _ h => h) (Or.inl ⟨rfl, ?_⟩) (by assumption) ?_; rotate_left; (intro X hSw; (try dsimp only at hSw); (go_simp <;> with_reducible rfl)))
            | (refine held_take (i := 28) (v := undef) rfl (by kernel_rfl) (by kernel_rfl) (by kernel_rfl) (fun _ _ _ h => h) (Or.inr ⟨rfl, rfl⟩) (by assumption) ?_)); simp only [Act.put, List.setIfInBounds_toArray, List.set_cons_zero, List.set_cons_succ]
          (first
            | (refine held_take (i := 29) (v := ?_) rfl (by kernel_rfl) (by kernel_rfl) (by kernel_rfl) (fun _ _ _ h => h) (Or.inl ⟨rfl, ?_⟩) (by assumption) ?_; rotate_left; (intro X hSw; (try dsimp only at hSw); (go_simp <;> with_reducible rfl)))
            | (refine held_take (i := 29) (v := undef) rfl (by kernel_rfl) (by kernel_rfl) (by kernel_rfl) (fun _ _ _ h => h) (Or.inr ⟨rfl, rfl⟩) (by assumption) ?_)); simp only [Act.put, List.setIfInBounds_toArray, List.set_cons_zero, List.set_cons_succ]
          (first
            | (refine held_take (i := 30) (v := ?_) rfl (by kernel_rfl) (by kernel_rfl) (by kernel_rfl) (fun _ _ _ h => h) (Or.inl ⟨rfl, ?_⟩) (by assumption) ?_; rotate_left; (intro X hSw; (try dsimp only at hSw); (go_simp <;> with_reducible rfl)))
            | (refine held_take (i := 30) (v := undef) rfl (by kernel_rfl) (by kernel_rfl) (by kernel_rfl) (fun _ _ _ h => h) (Or.inr ⟨rfl, rfl⟩) (by assumption) ?_)); simp only [Act.put, List.setIfInBounds_toArray, List.set_cons_zero, List.set_cons_succ]
          (first
            | (refine held_take (i := 31) (v := ?_) rfl (by kernel_rfl) (by kernel_rfl) (by kernel_rfl) (fun _ _ _ h => h) (Or.inl ⟨rfl, ?_⟩) (by assumption) ?_; rotate_left; (intro X hSw; (try dsimp only at hSw); (go_simp <;> with_reducible rfl)))
            | (refine held_take (i := 31) (v := undef) rfl (by kernel_rfl) (by kernel_rfl) (by kernel_rfl) (fun _ _ _ h => h) (Or.inr ⟨rfl, rfl⟩) (by assumption) ?_)); simp only [Act.put, List.setIfInBounds_toArray, List.set_cons_zero, List.set_cons_succ]
          (first
            | (refine held_take (i := 32) (v := ?_) rfl (by kernel_rfl) (by kernel_rfl) (by kernel_rfl) (fun _ _ _ h => h) (Or.inl ⟨rfl, ?_⟩) (by assumption) ?_; rotate_left; (intro X hSw; (try dsimp only at hSw); (go_simp <;> with_reducible rfl)))
            | (refine held_take (i := 32) (v := undef) rfl (by kernel_rfl) (by kernel_rfl) (by kernel_rfl) (fun _ _ _ h => h) (Or.inr ⟨rfl, rfl⟩) (by assumption) ?_)); simp only [Act.put, List.setIfInBounds_toArray, List.set_cons_zero, List.set_cons_succ]
          (first
            | (refine held_take (i := 33) (v := ?_) rfl (by kernel_rfl) (by kernel_rfl) (by kernel_rfl) (fun _ _ _ h => h) (Or.inl ⟨rfl, ?_⟩) (by assumption) ?_; rotate_left; (intro X hSw; (try dsimp only at hSw); (go_simp <;> with_reducible rfl)))
            | (refine held_take (i := 33) (v := undef) rfl (by kernel_rfl) (by kernel_rfl) (by kernel_rfl) (fun _ _ _ h => h) (Or.inr ⟨rfl, rfl⟩) (by assumption) ?_)); simp only [Act.put, List.setIfInBounds_toArray, List.set_cons_zero, List.set_cons_succ]
          (first
            | (refine held_take (i := 34) (v := ?_) rfl (by kernel_rfl) (by kernel_rfl) (by kernel_rfl) (fun _ _ _ h => h) (Or.inl ⟨rfl, ?_⟩) (by assumption) ?_; rotate_left; (intro X hSw; (try dsimp only at hSw); (go_simp <;> with_reducible rfl)))
            | (refine held_take (i := 34) (v := undef) rfl (by kernel_rfl) (by kernel_rfl) (by kernel_rfl) (fun _ _ _ h => h) (Or.inr ⟨rfl, rfl⟩) (by assumption) ?_)); simp only [Act.put, List.setIfInBounds_toArray, List.set_cons_zero, List.set_cons_succ]
          (first
            | (refine held_take (i := 35) (v := ?_) rfl (by kernel_rfl) (by kernel_rfl) (by kernel_rfl) (fun _ _ _ h => h) (Or.inl ⟨rfl, ?_⟩) (by assumption) ?_; rotate_left; (intro X hSw; (try dsimp only at hSw); (go_simp <;> with_reducible rfl)))
            | (refine held_take (i := 35) (v := undef) rfl (by kernel_rfl) (by kernel_rfl) (by kernel_rfl) (fun _ _ _ h => h) (Or.inr ⟨rfl, rfl⟩) (by assumption) ?_)); simp only [Act.put, List.setIfInBounds_toArray, List.set_cons_zero, List.set_cons_succ]
          (first
            | (refine held_take (i := 36) (v := ?_) rfl (by kernel_rfl) (by kernel_rfl) (by kernel_rfl) (fun _ _ _ h => h) (Or.inl ⟨rfl, ?_⟩) (by assumption) ?_; rotate_left; (intro X hSw; (try dsimp only at hSw); (go_simp <;> with_reducible rfl)))
            | (refine held_take (i := 36) (v := undef) rfl (by kernel_rfl) (by kernel_rfl) (by kernel_rfl) (fun _ _ _ h => h) (Or.inr ⟨rfl, rfl⟩) (by assumption) ?_)); simp only [Act.put, List.setIfInBounds_toArray, List.set_cons_zero, List.set_cons_succ]
          (first
            | (refine held_take (i := 37) (v := ?_) rfl (by kernel_rfl) (by kernel_rfl) (by kernel_rfl) (fun _ _ _ h => h) (Or.inl ⟨rfl, ?_⟩) (by assumption) ?_; rotate_left; (intro X hSw; (try dsimp only at hSw); (go_simp <;> with_reducible rfl)))
            | (refine held_take (i := 37) (v := undef) rfl (by kernel_rfl) (by kernel_rfl) (by kernel_rfl) (fun _ _ _ h => h) (Or.inr ⟨rfl, rfl⟩) (by assumption) ?_)); simp only [Act.put, List.setIfInBounds_toArray, List.set_cons_zero, List.set_cons_succ]
          (first
            | (refine held_take (i := 38) (v := ?_) rfl (by kernel_rfl) (by kernel_rfl) (by kernel_rfl) (fun _ _ _ h => h) (Or.inl ⟨rfl, ?_⟩) (by assumption) ?_; rotate_left; (intro X hSw; (try dsimp only at hSw); (go_simp <;> with_reducible rfl)))
            | (refine held_take (i := 38) (v := undef) rfl (by kernel_rfl) (by kernel_rfl) (by kernel_rfl) (fun _ _ _ h => h) (Or.inr ⟨rfl, rfl⟩) (by assumption) ?_)); simp only [Act.put, List.setIfInBounds_toArray, List.set_cons_zero, List.set_cons_succ]
          (first
            | (refine held_take (i := 39) (v := ?_) rfl (by kernel_rfl) (by kernel_rfl) (by kernel_rfl) (fun _ _ _ h => h) (Or.inl ⟨rfl, ?_⟩) (by assumption) ?_; rotate_left; (intro X hSw; (try dsimp only at hSw); (go_simp <;> with_reducible rfl)))
            | (refine held_take (i := 39) (v := undef) rfl (by kernel_rfl) (by kernel_rfl) (by kernel_rfl) (fun _ _ _ h => h) (Or.inr ⟨rfl, rfl⟩) (by assumption) ?_)); simp only [Act.put, List.setIfInBounds_toArray, List.set_cons_zero, List.set_cons_succ]
          (first
            | (refine held_take (i := 40) (v := ?_) rfl (by kernel_rfl) (by kernel_rfl) (by kernel_rfl) (fun _ _ _ h => h) (Or.inl ⟨rfl, ?_⟩) (by assumption) ?_; rotate_left; (intro X hSw; (try dsimp only at hSw); (go_simp <;> with_reducible rfl)))
            | (refine held_take (i := 40) (v := undef) rfl (by kernel_rfl) (by kernel_rfl) (by kernel_rfl) (fun _ _ _ h => h) (Or.inr ⟨rfl, rfl⟩) (by assumption) ?_)); simp only [Act.put, List.setIfInBounds_toArray, List.set_cons_zero, List.set_cons_succ]
          refine wpAnyH_done (by kernel_rfl) ?_ _
          have hx2 : Below W0.heap.size W0 w2 := hb.drew.trans (hb2.mono hb.drew.size)
          have hx3 : Below W0.heap.size W0 w3 := hx2.trans (hb3.mono hx2.size)
          have HBF := Lib.hid (HBX.out.trans (hx3.mono HBX.out.size))
          go_wp2
          go_ret
          exact ⟨false, rfl, iffF HNR.out, HBF.out⟩

      · have HC1 := Lib.hid (BoolPost.no HC1b.out q1)

        have HNR : Hid (¬ GramP rs) := fun h => by obtain ⟨h1, h2, h3, h4, h5⟩ := HNO.out h; exact q1 h1
        go_wp2
        refine wp_region_held_drew (S := (fun X => X.cell? ⟨w.heap.size, 0, none⟩ = some (.slice (some ⟨b, off, none⟩) rs.length c) ∧ X.cell? ⟨b, off + j * 8, none⟩ = some (.string nm) ∧ X.cell? ⟨b, off + j * 8 + 1, none⟩ = some (.int .i64 pk) ∧ X.cell? ⟨b, off + j * 8 + 1 + 1, none⟩ = some (.string pt) ∧ X.cell? ⟨b, off + j * 8 + 1 + 2, none⟩ = some (.slice PA plo.length pa) ∧ X.cell? ⟨b, off + j * 8 + 1 + 3, none⟩ = some (.slice PB phi.length pb) ∧ X.cell? ⟨b, off + j * 8 + 1 + 4, none⟩ = some (.slice PK pkids.length pc) ∧ X.cell? ⟨b, off + j * 8 + 1 + 5, none⟩ = some (.int .i64 pmn) ∧ X.cell? ⟨b, off + j * 8 + 1 + 6, none⟩ = some (.int .i64 pmx))) (by kernel_rfl) ?_ (fun hHeld => ?_)
        · exact ⟨g0, n0, c0, c1, c2, c3, c4, c5, c6⟩
        (first
          | (refine held_take (i := 0) (v := ?_) rfl (by kernel_rfl) (by kernel_rfl) (by kernel_rfl) (fun _ _ _ h => h) (Or.inl ⟨rfl, ?_⟩) (by assumption) ?_; rotate_left; (intro X hSw; (try dsimp only at hSw); (go_simp <;> with_reducible rfl)))
          | (refine held_take (i := 0) (v := undef) rfl (by kernel_rfl) (by kernel_rfl) (by kernel_rfl) (fun _ _ _ h => h) (Or.inr ⟨rfl, rfl⟩) (by assumption) ?_)); simp only [Act.put, List.setIfInBounds_toArray, List.set_cons_zero, List.set_cons_succ]
        (first
          | (refine held_take (i := 1) (v := ?_) rfl (by kernel_rfl) (by kernel_rfl) (by kernel_rfl) (fun _ _ _ h => h) (Or.inl ⟨rfl, ?_⟩) (by assumption) ?_; rotate_left; (intro X hSw; (try dsimp only at hSw); (go_simp <;> with_reducible rfl)))
          | (refine held_take (i := 1) (v := undef) rfl (by kernel_rfl) (by kernel_rfl) (by kernel_rfl) (fun _ _ _ h => h) (Or.inr ⟨rfl, rfl⟩) (by assumption) ?_)); simp only [Act.put, List.setIfInBounds_toArray, List.set_cons_zero, List.set_cons_succ]
        (first
          | (refine held_take (i := 2) (v := ?_) rfl (by kernel_rfl) (by kernel_rfl) (by kernel_rfl) (fun _ _ _ h => h) (Or.inl ⟨rfl, ?_⟩) (by assumption) ?_; rotate_left; (intro X hSw; (try dsimp only at hSw); (go_simp <;> with_reducible rfl)))
          | (refine held_take (i := 2) (v := undef) rfl (by kernel_rfl) (by kernel_rfl) (by kernel_rfl) (fun _ _ _ h => h) (Or.inr ⟨rfl, rfl⟩) (by assumption) ?_)); simp only [Act.put, List.setIfInBounds_toArray, List.set_cons_zero, List.set_cons_succ]
        (first
          | (refine held_take (i := 3) (v := ?_) rfl (by kernel_rfl) (by kernel_rfl) (by kernel_rfl) (fun _ _ _ h => h) (Or.inl ⟨rfl, ?_⟩) (by assumption) ?_; rotate_left; (intro X hSw; (try dsimp only at hSw); (go_simp <;> with_reducible rfl)))
          | (refine held_take (i := 3) (v := undef) rfl (by kernel_rfl) (by kernel_rfl) (by kernel_rfl) (fun _ _ _ h => h) (Or.inr ⟨rfl, rfl⟩) (by assumption) ?_)); simp only [Act.put, List.setIfInBounds_toArray, List.set_cons_zero, List.set_cons_succ]
        (first
          | (refine held_take (i := 4) (v := ?_) rfl (by kernel_rfl) (by kernel_rfl) (by kernel_rfl) (fun _ _ _ h => h) (Or.inl ⟨rfl, ?_⟩) (by assumption) ?_; rotate_left; (intro X hSw; (try dsimp only at hSw); (go_simp <;> with_reducible rfl)))
          | (refine held_take (i := 4) (v := undef) rfl (by kernel_rfl) (by kernel_rfl) (by kernel_rfl) (fun _ _ _ h => h) (Or.inr ⟨rfl, rfl⟩) (by assumption) ?_)); simp only [Act.put, List.setIfInBounds_toArray, List.set_cons_zero, List.set_cons_succ]
        (first
          | (refine held_take (i := 5) (v := ?_) rfl (by kernel_rfl) (by kernel_rfl) (by kernel_rfl) (fun _ _ _ h => h) (Or.inl ⟨rfl, ?_⟩) (by assumption) ?_; rotate_left; (intro X hSw; (try dsimp only at hSw); (go_simp <;> with_reducible rfl)))
          | (refine held_take (i := 5) (v := undef) rfl (by kernel_rfl) (by kernel_rfl) (by kernel_rfl) (fun _ _ _ h => h) (Or.inr ⟨rfl, rfl⟩) (by assumption) ?_)); simp only [Act.put, List.setIfInBounds_toArray, List.set_cons_zero, List.set_cons_succ]
        refine wpAnyH_ready (rs := [6]) (by kernel_rfl) (by simp) ?_
        refine AllReadyH.cons rfl (fun K hK => ?_) AllReadyH.nil
        go_simp
        go_wp2_with ((go_at_call 64; refine (HC1.out).mono ?_; rintro e w2 ⟨rfl, hb2⟩))
        refine hK.out _ _ ?_ (fun hHeld => ?_)
        · exact ⟨cell_keep hb2 g0, cell_keep hb2 n0, cell_keep hb2 c0, cell_keep hb2 c1, cell_keep hb2 c2, cell_keep hb2 c3, cell_keep hb2 c4, cell_keep hb2 c5, cell_keep hb2 c6⟩
        clear hK K
        (first
          | (refine held_take (i := 7) (v := ?_) rfl (by kernel_rfl) (by kernel_rfl) (by kernel_rfl) (fun _ _ _ h => h) (Or.inl ⟨rfl, ?_⟩) (by assumption) ?_; rotate_left; (intro X hSw; (try dsimp only at hSw); (go_simp <;> with_reducible rfl)))
          | (refine held_take (i := 7) (v := undef) rfl (by kernel_rfl) (by kernel_rfl) (by kernel_rfl) (fun _ _ _ h => h) (Or.inr ⟨rfl, rfl⟩) (by assumption) ?_)); simp only [Act.put, List.setIfInBounds_toArray, List.set_cons_zero, List.set_cons_succ]
        (first
          | (refine held_take (i := 8) (v := ?_) rfl (by kernel_rfl) (by kernel_rfl) (by kernel_rfl) (fun _ _ _ h => h) (Or.inl ⟨rfl, ?_⟩) (by assumption) ?_; rotate_left; (intro X hSw; (try dsimp only at hSw); (go_simp <;> with_reducible rfl)))
          | (refine held_take (i := 8) (v := undef) rfl (by kernel_rfl) (by kernel_rfl) (by kernel_rfl) (fun _ _ _ h => h) (Or.inr ⟨rfl, rfl⟩) (by assumption) ?_)); simp only [Act.put, List.setIfInBounds_toArray, List.set_cons_zero, List.set_cons_succ]
        (first
          | (refine held_take (i := 9) (v := ?_) rfl (by kernel_rfl) (by kernel_rfl) (by kernel_rfl) (fun _ _ _ h => h) (Or.inl ⟨rfl, ?_⟩) (by assumption) ?_; rotate_left; (intro X hSw; (try dsimp only at hSw); (go_simp <;> with_reducible rfl)))
          | (refine held_take (i := 9) (v := undef) rfl (by kernel_rfl) (by kernel_rfl) (by kernel_rfl) (fun _ _ _ h => h) (Or.inr ⟨rfl, rfl⟩) (by assumption) ?_)); simp only [Act.put, List.setIfInBounds_toArray, List.set_cons_zero, List.set_cons_succ]
        (first
          | (refine held_take (i := 10) (v := ?_) rfl (by kernel_rfl) (by kernel_rfl) (by kernel_rfl) (fun _ _ _ h => h) (Or.inl ⟨rfl, ?_⟩) (by assumption) ?_; rotate_left; (intro X hSw; (try dsimp only at hSw); (go_simp <;> with_reducible rfl)))
          | (refine held_take (i := 10) (v := undef) rfl (by kernel_rfl) (by kernel_rfl) (by kernel_rfl) (fun _ _ _ h => h) (Or.inr ⟨rfl, rfl⟩) (by assumption) ?_)); simp only [Act.put, List.setIfInBounds_toArray, List.set_cons_zero, List.set_cons_succ]
        (first
          | (refine held_take (i := 11) (v := ?_) rfl (by kernel_rfl) (by kernel_rfl) (by kernel_rfl) (fun _ _ _ h => h) (Or.inl ⟨rfl, ?_⟩) (by assumption) ?_; rotate_left; (intro X hSw; (try dsimp only at hSw); (go_simp <;> with_reducible rfl)))
          | (refine held_take (i := 11) (v := undef) rfl (by kernel_rfl) (by kernel_rfl) (by kernel_rfl) (fun _ _ _ h => h) (Or.inr ⟨rfl, rfl⟩) (by assumption) ?_)); simp only [Act.put, List.setIfInBounds_toArray, List.set_cons_zero, List.set_cons_succ]
        (first
          | (refine held_take (i := 12) (v := ?_) rfl (by kernel_rfl) (by kernel_rfl) (by kernel_rfl) (fun _ _ _ h => h) (Or.inl ⟨rfl, ?_⟩) (by assumption) ?_; rotate_left; (intro X hSw; (try dsimp only at hSw); (go_simp <;> with_reducible rfl)))
          | (refine held_take (i := 12) (v := undef) rfl (by kernel_rfl) (by kernel_rfl) (by kernel_rfl) (fun _ _ _ h => h) (Or.inr ⟨rfl, rfl⟩) (by assumption) ?_)); simp only [Act.put, List.setIfInBounds_toArray, List.set_cons_zero, List.set_cons_succ]
        (first
          | (refine held_take (i := 13) (v := ?_) rfl (by kernel_rfl) (by kernel_rfl) (by kernel_rfl) (fun _ _ _ h => h) (Or.inl ⟨rfl, ?_⟩) (by assumption) ?_; rotate_left; (intro X hSw; (try dsimp only at hSw); (go_simp <;> with_reducible rfl)))
          | (refine held_take (i := 13) (v := undef) rfl (by kernel_rfl) (by kernel_rfl) (by kernel_rfl) (fun _ _ _ h => h) (Or.inr ⟨rfl, rfl⟩) (by assumption) ?_)); simp only [Act.put, List.setIfInBounds_toArray, List.set_cons_zero, List.set_cons_succ]
        (first
          | (refine held_take (i := 14) (v := ?_) rfl (by kernel_rfl) (by kernel_rfl) (by kernel_rfl) (fun _ _ _ h => h) (Or.inl ⟨rfl, ?_⟩) (by assumption) ?_; rotate_left; (intro X hSw; (try dsimp only at hSw); (go_simp <;> with_reducible rfl)))
          | (refine held_take (i := 14) (v := undef) rfl (by kernel_rfl) (by kernel_rfl) (by kernel_rfl) (fun _ _ _ h => h) (Or.inr ⟨rfl, rfl⟩) (by assumption) ?_)); simp only [Act.put, List.setIfInBounds_toArray, List.set_cons_zero, List.set_cons_succ]
        (first
          | (refine held_take (i := 15) (v := ?_) rfl (by kernel_rfl) (by kernel_rfl) (by kernel_rfl) (fun _ _ _ h => h) (Or.inl ⟨rfl, ?_⟩) (by assumption) ?_; rotate_left; (intro X hSw; (try dsimp only at hSw); (go_simp <;> with_reducible rfl)))
          | (refine held_take (i := 15) (v := undef) rfl (by kernel_rfl) (by kernel_rfl) (by kernel_rfl) (fun _ _ _ h => h) (Or.inr ⟨rfl, rfl⟩) (by assumption) ?_)); simp only [Act.put, List.setIfInBounds_toArray, List.set_cons_zero, List.set_cons_succ]
        (first
          | (refine held_take (i := 17) (v := ?_) rfl (by kernel_rfl) (by kernel_rfl) (by kernel_rfl) (fun _ _ _ h => h) (Or.inl ⟨rfl, ?_⟩) (by assumption) ?_; rotate_left; (intro X hSw; (try dsimp only at hSw); (go_simp <;> with_reducible rfl)))
          | (refine held_take (i := 17) (v := undef) rfl (by kernel_rfl) (by kernel_rfl) (by kernel_rfl) (fun _ _ _ h => h) (Or.inr ⟨rfl, rfl⟩) (by assumption) ?_)); simp only [Act.put, List.setIfInBounds_toArray, List.set_cons_zero, List.set_cons_succ]
        (first
          | (refine held_take (i := 16) (v := ?_) rfl (by kernel_rfl) (by kernel_rfl) (by kernel_rfl) (fun _ _ _ h => h) (Or.inl ⟨rfl, ?_⟩) (by assumption) ?_; rotate_left; (intro X hSw; (try dsimp only at hSw); (go_simp <;> with_reducible rfl)))
          | (refine held_take (i := 16) (v := undef) rfl (by kernel_rfl) (by kernel_rfl) (by kernel_rfl) (fun _ _ _ h => h) (Or.inr ⟨rfl, rfl⟩) (by assumption) ?_)); simp only [Act.put, List.setIfInBounds_toArray, List.set_cons_zero, List.set_cons_succ]
        (first
          | (refine held_take (i := 18) (v := ?_) rfl (by kernel_rfl) (by kernel_rfl) (by kernel_rfl) (fun _ _ _ h => h) (Or.inl ⟨rfl, ?_⟩) (by assumption) ?_; rotate_left; (intro X hSw; (try dsimp only at hSw); (go_simp <;> with_reducible rfl)))
          | (refine held_take (i := 18) (v := undef) rfl (by kernel_rfl) (by kernel_rfl) (by kernel_rfl) (fun _ _ _ h => h) (Or.inr ⟨rfl, rfl⟩) (by assumption) ?_)); simp only [Act.put, List.setIfInBounds_toArray, List.set_cons_zero, List.set_cons_succ]
        (first
          | (refine held_take (i := 19) (v := ?_) rfl (by kernel_rfl) (by kernel_rfl) (by kernel_rfl) (fun _ _ _ h => h) (Or.inl ⟨rfl, ?_⟩) (by assumption) ?_; rotate_left; (intro X hSw; (try dsimp only at hSw); (go_simp <;> with_reducible rfl)))
          | (refine held_take (i := 19) (v := undef) rfl (by kernel_rfl) (by kernel_rfl) (by kernel_rfl) (fun _ _ _ h => h) (Or.inr ⟨rfl, rfl⟩) (by assumption) ?_)); simp only [Act.put, List.setIfInBounds_toArray, List.set_cons_zero, List.set_cons_succ]
        (first
          | (refine held_take (i := 20) (v := ?_) rfl (by kernel_rfl) (by kernel_rfl) (by kernel_rfl) (fun _ _ _ h => h) (Or.inl ⟨rfl, ?_⟩) (by assumption) ?_; rotate_left; (intro X hSw; (try dsimp only at hSw); (go_simp <;> with_reducible rfl)))
          | (refine held_take (i := 20) (v := undef) rfl (by kernel_rfl) (by kernel_rfl) (by kernel_rfl) (fun _ _ _ h => h) (Or.inr ⟨rfl, rfl⟩) (by assumption) ?_)); simp only [Act.put, List.setIfInBounds_toArray, List.set_cons_zero, List.set_cons_succ]
        (first
          | (refine held_take (i := 21) (v := ?_) rfl (by kernel_rfl) (by kernel_rfl) (by kernel_rfl) (fun _ _ _ h => h) (Or.inl ⟨rfl, ?_⟩) (by assumption) ?_; rotate_left; (intro X hSw; (try dsimp only at hSw); (go_simp <;> with_reducible rfl)))
          | (refine held_take (i := 21) (v := undef) rfl (by kernel_rfl) (by kernel_rfl) (by kernel_rfl) (fun _ _ _ h => h) (Or.inr ⟨rfl, rfl⟩) (by assumption) ?_)); simp only [Act.put, List.setIfInBounds_toArray, List.set_cons_zero, List.set_cons_succ]
        (first
          | (refine held_take (i := 22) (v := ?_) rfl (by kernel_rfl) (by kernel_rfl) (by kernel_rfl) (fun _ _ _ h => h) (Or.inl ⟨rfl, ?_⟩) (by assumption) ?_; rotate_left; (intro X hSw; (try dsimp only at hSw); (go_simp <;> with_reducible rfl)))
          | (refine held_take (i := 22) (v := undef) rfl (by kernel_rfl) (by kernel_rfl) (by kernel_rfl) (fun _ _ _ h => h) (Or.inr ⟨rfl, rfl⟩) (by assumption) ?_)); simp only [Act.put, List.setIfInBounds_toArray, List.set_cons_zero, List.set_cons_succ]
        (first
          | (refine held_take (i := 23) (v := ?_) rfl (by kernel_rfl) (by kernel_rfl) (by kernel_rfl) (fun _ _ _ h => h) (Or.inl ⟨rfl, ?_⟩) (by assumption) ?_; rotate_left; (intro X hSw; (try dsimp only at hSw); (go_simp <;> with_reducible rfl)))
          | (refine held_take (i := 23) (v := undef) rfl (by kernel_rfl) (by kernel_rfl) (by kernel_rfl) (fun _ _ _ h => h) (Or.inr ⟨rfl, rfl⟩) (by assumption) ?_)); simp only [Act.put, List.setIfInBounds_toArray, List.set_cons_zero, List.set_cons_succ]
        (first
          | (refine held_take (i := 24) (v := ?_) rfl (by kernel_rfl) (by kernel_rfl) (by kernel_rfl) (fun _ _ _ h => h) (Or.inl ⟨rfl, ?_⟩) (by assumption) ?_; rotate_left; (intro X hSw; (try dsimp only at hSw); (go_simp <;> with_reducible rfl)))
          | (refine held_take (i := 24) (v := undef) rfl (by kernel_rfl) (by kernel_rfl) (by kernel_rfl) (fun _ _ _ h => h) (Or.inr ⟨rfl, rfl⟩) (by assumption) ?_)); simp only [Act.put, List.setIfInBounds_toArray, List.set_cons_zero, List.set_cons_succ]
        (first
          | (refine held_take (i := 25) (v := ?_) rfl (by kernel_rfl) (by kernel_rfl) (by kernel_rfl) (fun _ _ _ h => h) (Or.inl ⟨rfl, ?_⟩) (by assumption) ?_; rotate_left; (intro X hSw; (try dsimp only at hSw); (go_simp <;> with_reducible rfl)))
          | (refine held_take (i := 25) (v := undef) rfl (by kernel_rfl) (by kernel_rfl) (by kernel_rfl) (fun _ _ _ h => h) (Or.inr ⟨rfl, rfl⟩) (by assumption) ?_)); simp only [Act.put, List.setIfInBounds_toArray, List.set_cons_zero, List.set_cons_succ]
        (first
          | (refine held_take (i := 26) (v := ?_) rfl (by kernel_rfl) (by kernel_rfl) (by kernel_rfl) (fun _ _ _ h => h) (Or.inl ⟨rfl, ?_⟩) (by assumption) ?_; rotate_left; (intro X hSw; (try dsimp only at hSw); (go_simp <;> with_reducible rfl)))
          | (refine held_take (i := 26) (v := undef) rfl (by kernel_rfl) (by kernel_rfl) (by kernel_rfl) (fun _ _ _ h => h) (Or.inr ⟨rfl, rfl⟩) (by assumption) ?_)); simp only [Act.put, List.setIfInBounds_toArray, List.set_cons_zero, List.set_cons_succ]
        (first
          | (refine held_take (i := 27) (v := ?_) rfl (by kernel_rfl) (by kernel_rfl) (by kernel_rfl) (fun _ _ _ h => h) (Or.inl ⟨rfl, ?_⟩) (by assumption) ?_; rotate_left; (intro X hSw; (try dsimp only at hSw); (go_simp <;> with_reducible rfl)))
          | (refine held_take (i := 27) (v := undef) rfl (by kernel_rfl) (by kernel_rfl) (by kernel_rfl) (fun _ _ _ h => h) (Or.inr ⟨rfl, rfl⟩) (by assumption) ?_)); simp only [Act.put, List.setIfInBounds_toArray, List.set_cons_zero, List.set_cons_succ]
        (first
          | (refine held_take (i := 28) (v := ?_) rfl (by kernel_rfl) (by kernel_rfl) (by kernel_rfl) (fun _ _ _ h => h) (Or.inl ⟨rfl, ?_⟩) (by assumption) ?_; rotate_left; (intro X hSw; (try dsimp only at hSw); (go_simp <;> with_reducible rfl)))
          | (refine held_take (i := 28) (v := undef) rfl (by kernel_rfl) (by kernel_rfl) (by kernel_rfl) (fun _ _ _ h => h) (Or.inr ⟨rfl, rfl⟩) (by assumption) ?_)); simp only [Act.put, List.setIfInBounds_toArray, List.set_cons_zero, List.set_cons_succ]
        (first
          | (refine held_take (i := 29) (v := ?_) rfl (by kernel_rfl) (by kernel_rfl) (by kernel_rfl) (fun _ _ _ h => h) (Or.inl ⟨rfl, ?_⟩) (by assumption) ?_; rotate_left; (intro X hSw; (try dsimp only at hSw); (go_simp <;> with_reducible rfl)))
          | (refine held_take (i := 29) (v := undef) rfl (by kernel_rfl) (by kernel_rfl) (by kernel_rfl) (fun _ _ _ h => h) (Or.inr ⟨rfl, rfl⟩) (by assumption) ?_)); simp only [Act.put, List.setIfInBounds_toArray, List.set_cons_zero, List.set_cons_succ]
        (first
          | (refine held_take (i := 30) (v := ?_) rfl (by kernel_rfl) (by kernel_rfl) (by kernel_rfl) (fun _ _ _ h => h) (Or.inl ⟨rfl, ?_⟩) (by assumption) ?_; rotate_left; (intro X hSw; (try dsimp only at hSw); (go_simp <;> with_reducible rfl)))
          | (refine held_take (i := 30) (v := undef) rfl (by kernel_rfl) (by kernel_rfl) (by kernel_rfl) (fun _ _ _ h => h) (Or.inr ⟨rfl, rfl⟩) (by assumption) ?_)); simp only [Act.put, List.setIfInBounds_toArray, List.set_cons_zero, List.set_cons_succ]
        (first
          | (refine held_take (i := 31) (v := ?_) rfl (by kernel_rfl) (by kernel_rfl) (by kernel_rfl) (fun _ _ _ h => h) (Or.inl ⟨rfl, ?_⟩) (by assumption) ?_; rotate_left; (intro X hSw; (try dsimp only at hSw); (go_simp <;> with_reducible rfl)))
          | (refine held_take (i := 31) (v := undef) rfl (by kernel_rfl) (by kernel_rfl) (by kernel_rfl) (fun _ _ _ h => h) (Or.inr ⟨rfl, rfl⟩) (by assumption) ?_)); simp only [Act.put, List.setIfInBounds_toArray, List.set_cons_zero, List.set_cons_succ]
        (first
          | (refine held_take (i := 32) (v := ?_) rfl (by kernel_rfl) (by kernel_rfl) (by kernel_rfl) (fun _ _ _ h => h) (Or.inl ⟨rfl, ?_⟩) (by assumption) ?_; rotate_left; (intro X hSw; (try dsimp only at hSw); (go_simp <;> with_reducible rfl)))
          | (refine held_take (i := 32) (v := undef) rfl (by kernel_rfl) (by kernel_rfl) (by kernel_rfl) (fun _ _ _ h => h) (Or.inr ⟨rfl, rfl⟩) (by assumption) ?_)); simp only [Act.put, List.setIfInBounds_toArray, List.set_cons_zero, List.set_cons_succ]
        (first
          | (refine held_take (i := 33) (v := ?_) rfl (by kernel_rfl) (by kernel_rfl) (by kernel_rfl) (fun _ _ _ h => h) (Or.inl ⟨rfl, ?_⟩) (by assumption) ?_; rotate_left; (intro X hSw; (try dsimp only at hSw); (go_simp <;> with_reducible rfl)))
          | (refine held_take (i := 33) (v := undef) rfl (by kernel_rfl) (by kernel_rfl) (by kernel_rfl) (fun _ _ _ h => h) (Or.inr ⟨rfl, rfl⟩) (by assumption) ?_)); simp only [Act.put, List.setIfInBounds_toArray, List.set_cons_zero, List.set_cons_succ]
        (first
          | (refine held_take (i := 34) (v := ?_) rfl (by kernel_rfl) (by kernel_rfl) (by kernel_rfl) (fun _ _ _ h => h) (Or.inl ⟨rfl, ?_⟩) (by assumption) ?_; rotate_left; (intro X hSw; (try dsimp only at hSw); (go_simp <;> with_reducible rfl)))
          | (refine held_take (i := 34) (v := undef) rfl (by kernel_rfl) (by kernel_rfl) (by kernel_rfl) (fun _ _ _ h => h) (Or.inr ⟨rfl, rfl⟩) (by assumption) ?_)); simp only [Act.put, List.setIfInBounds_toArray, List.set_cons_zero, List.set_cons_succ]
        (first
          | (refine held_take (i := 35) (v := ?_) rfl (by kernel_rfl) (by kernel_rfl) (by kernel_rfl) (fun _ _ _ h => h) (Or.inl ⟨rfl, ?_⟩) (by assumption) ?_; rotate_left; (intro X hSw; (try dsimp only at hSw); (go_simp <;> with_reducible rfl)))
          | (refine held_take (i := 35) (v := undef) rfl (by kernel_rfl) (by kernel_rfl) (by kernel_rfl) (fun _ _ _ h => h) (Or.inr ⟨rfl, rfl⟩) (by assumption) ?_)); simp only [Act.put, List.setIfInBounds_toArray, List.set_cons_zero, List.set_cons_succ]
        (first
          | (refine held_take (i := 36) (v := ?_) rfl (by kernel_rfl) (by kernel_rfl) (by kernel_rfl) (fun _ _ _ h => h) (Or.inl ⟨rfl, ?_⟩) (by assumption) ?_; rotate_left; (intro X hSw; (try dsimp only at hSw); (go_simp <;> with_reducible rfl)))
          | (refine held_take (i := 36) (v := undef) rfl (by kernel_rfl) (by kernel_rfl) (by kernel_rfl) (fun _ _ _ h => h) (Or.inr ⟨rfl, rfl⟩) (by assumption) ?_)); simp only [Act.put, List.setIfInBounds_toArray, List.set_cons_zero, List.set_cons_succ]
        (first
          | (refine held_take (i := 37) (v := ?_) rfl (by kernel_rfl) (by kernel_rfl) (by kernel_rfl) (fun _ _ _ h => h) (Or.inl ⟨rfl, ?_⟩) (by assumption) ?_; rotate_left; (intro X hSw; (try dsimp only at hSw); (go_simp <;> with_reducible rfl)))
          | (refine held_take (i := 37) (v := undef) rfl (by kernel_rfl) (by kernel_rfl) (by kernel_rfl) (fun _ _ _ h => h) (Or.inr ⟨rfl, rfl⟩) (by assumption) ?_)); simp only [Act.put, List.setIfInBounds_toArray, List.set_cons_zero, List.set_cons_succ]
        (first
          | (refine held_take (i := 38) (v := ?_) rfl (by kernel_rfl) (by kernel_rfl) (by kernel_rfl) (fun _ _ _ h => h) (Or.inl ⟨rfl, ?_⟩) (by assumption) ?_; rotate_left; (intro X hSw; (try dsimp only at hSw); (go_simp <;> with_reducible rfl)))
          | (refine held_take (i := 38) (v := undef) rfl (by kernel_rfl) (by kernel_rfl) (by kernel_rfl) (fun _ _ _ h => h) (Or.inr ⟨rfl, rfl⟩) (by assumption) ?_)); simp only [Act.put, List.setIfInBounds_toArray, List.set_cons_zero, List.set_cons_succ]
        (first
          | (refine held_take (i := 39) (v := ?_) rfl (by kernel_rfl) (by kernel_rfl) (by kernel_rfl) (fun _ _ _ h => h) (Or.inl ⟨rfl, ?_⟩) (by assumption) ?_; rotate_left; (intro X hSw; (try dsimp only at hSw); (go_simp <;> with_reducible rfl)))
          | (refine held_take (i := 39) (v := undef) rfl (by kernel_rfl) (by kernel_rfl) (by kernel_rfl) (fun _ _ _ h => h) (Or.inr ⟨rfl, rfl⟩) (by assumption) ?_)); simp only [Act.put, List.setIfInBounds_toArray, List.set_cons_zero, List.set_cons_succ]
        (first
          | (refine held_take (i := 40) (v := ?_) rfl (by kernel_rfl) (by kernel_rfl) (by kernel_rfl) (fun _ _ _ h => h) (Or.inl ⟨rfl, ?_⟩) (by assumption) ?_; rotate_left; (intro X hSw; (try dsimp only at hSw); (go_simp <;> with_reducible rfl)))
          | (refine held_take (i := 40) (v := undef) rfl (by kernel_rfl) (by kernel_rfl) (by kernel_rfl) (fun _ _ _ h => h) (Or.inr ⟨rfl, rfl⟩) (by assumption) ?_)); simp only [Act.put, List.setIfInBounds_toArray, List.set_cons_zero, List.set_cons_succ]
        refine wpAnyH_done (by kernel_rfl) ?_ _
        have hx2 : Below W0.heap.size W0 w2 := hb.drew.trans (hb2.mono hb.drew.size)
        have HBF := Lib.hid (HBX.out.trans (hx2.mono HBX.out.size))
        go_wp2
        go_ret
        exact ⟨false, rfl, iffF HNR.out, HBF.out⟩

    · have hlt' : ¬ (j : Int) < (rs.length : Int) := by omega
      obtain rfl : j = rs.length := by omega
      have hpl : (parts rs).take rs.length = parts rs := List.take_of_length_le (by simp [parts])
      rw [hpl]
      have HG : Hid (GramP rs ↔ nodesL (parts rs) ≤ 160) := ⟨fun h => h.2.2.2, fun h => ⟨by omega, by omega, fun i hi => (HU.out i hi hi).1, h⟩⟩
      clear HU hpl
      generalize nodesL (parts rs) = x at *
      go_wp2
      go_ret
      refine ⟨_, rfl, ?_, HBX.out.trans (hb.mono HBX.out.size)⟩
      rw [HG.out]
      simp
      try omega

end Go.Proofs.Ytkgiklmdpdakbaa

