/- The specification's text of a part that has parts: spec.l2Write (written by tools/gen_w7.py). -/
import Derived.Test.YtadfjdgjlgpncaaGreatDoorW6
namespace Go.Proofs.YtadfjdgjlgpncaaGreatDoor
open Go.RowKit
set_option linter.unusedVariables false

/-- A part among others. -/
def sq (p : Pt) : List UInt8 := encl (p.kind == 5) (txt p)
theorem txt_4q {t : ByteArray} {lo hi : List Int} {kids : List Pt} {mn mx : Int} : txt (.mk 4 t lo hi kids mn mx) = if kids.length = 0 then [40, 41] else joinT [32] (kids.map sq) := by rw [txt_4]; rfl
theorem wrap2q {p : Pt} (h : p.kind ≠ 4) : wrapT 2 p = sq p := wrap2 h

/-- spec.l2Write, of parts that are at most so high. -/
def WrS (n : Nat) : Prop := ∀ (rs : List Ru) (k : Int) (t : ByteArray) (lo hi : List Int) (kids : List Pt) (mn mx : Int) (A B K : Option Addr) (ca cb kc B0 : Nat) (rank : Int) (w : World), NamesP rs → htL kids + 1 ≤ n → PtV w B0 lo hi kids A B K → OkP rs (.mk k t lo hi kids mn mx) → nodesL kids + 1 ≤ 160 → 0 ≤ rank → rank ≤ 3 →
  Calls Tryz.prog 29 #[.agg #[.int .i64 k, .string t, .slice A lo.length ca, .slice B hi.length cb, .slice K kids.length kc, .int .i64 mn, .int .i64 mx], .int .i64 rank] w (TextIs (wrapT rank (.mk k t lo hi kids mn mx)) w)

set_option maxRecDepth 100000 in
set_option maxHeartbeats 4000000 in
theorem write4 {n : Nat} (IH : WrS n) (rs : List Ru) (t : ByteArray) (lo hi : List Int) (kids : List Pt) (mn mx : Int) (A B K : Option Addr) (ca cb kc B0 : Nat) (rank : Int) (w : World) (hn : NamesP rs) (hv : PtV w B0 lo hi kids A B K) (ho : OkP rs (.mk 4 t lo hi kids mn mx)) (hnd : nodesL kids + 1 ≤ 160) (r0 : 0 ≤ rank) (r3 : rank ≤ 3) (hh : htL kids ≤ n) (hne : kids.length ≠ 0) : Calls Tryz.prog 29 #[.agg #[.int .i64 4, .string t, .slice A lo.length ca, .slice B hi.length cb, .slice K kids.length kc, .int .i64 mn, .int .i64 mx], .int .i64 rank] w (TextIs (wrapT rank (.mk 4 t lo hi kids mn mx)) w) := by
  have HBX : Hid (Below w.heap.size w (w.alloc (.cells #[.int .i64 4, .string t, .slice A lo.length ca, .slice B hi.length cb, .slice K kids.length kc, .int .i64 mn, .int .i64 mx] 38))) := below_box _
  have HV := Lib.hid (hv.keep HBX.out)
  have hlen := txt_len hn ((Pt.mk 4 t lo hi kids mn mx).ht) (.mk 4 t lo hi kids mn mx) (Nat.le_refl _) ho
  rw [nodes_mk] at hlen
  have HO := Lib.hid ho
  have OP : Hid (Own (w.alloc (.cells #[.int .i64 4, .string t, .slice A lo.length ca, .slice B hi.length cb, .slice K kids.length kc, .int .i64 mn, .int .i64 mx] 38)) w.heap.size 38 [.int .i64 4, .string t, .slice A lo.length ca, .slice B hi.length cb, .slice K kids.length kc, .int .i64 mn, .int .i64 mx]) := Own.new w 38 #[.int .i64 4, .string t, .slice A lo.length ca, .slice B hi.length cb, .slice K kids.length kc, .int .i64 mn, .int .i64 mx]
  clear hv ho
  have hfl : FlatP 4 kids ∧ ∀ p ∈ kids, OkP rs p := by
    cases HO.out with
    | mk _ _ _ _ _ _ _ ha hk =>
      obtain ⟨_, ha⟩ := ha
      rcases ha with ⟨e, _⟩ | ⟨e, _⟩ | ⟨e, _⟩ | ⟨e, _, _, h⟩ | ⟨e, _, _, h⟩ | ⟨e, _⟩ <;> first | omega | exact ⟨h, hk⟩
  have HTX : Hid (txt (.mk 4 t lo hi kids mn mx) = joinT [32] (kids.map sq)) := by show _ = _; rw [txt_4q]; rw [if_neg hne]
  rw [HTX.out] at hlen
  have hjl : (joinT [32] (kids.map sq)).length ≤ 160000 := by omega
  have HFL := Lib.hid hfl
  have HI := Lib.hid IH
  have HN := Lib.hid hn
  have HJL := Lib.hid hjl
  have HW1 : Hid (¬ (1 : Int) < rank → wrapT rank (.mk 4 t lo hi kids mn mx) = joinT [32] (kids.map sq)) := fun h => by rw [wrap_no (show ¬ ownR 4 < rank by unfold ownR; simp; omega), HTX.out]
  have HW2 : Hid ((1 : Int) < rank → wrapT rank (.mk 4 t lo hi kids mn mx) = paren (joinT [32] (kids.map sq))) := fun h => by rw [wrap_yes (p := .mk 4 t lo hi kids mn mx) (fun h' => hne h'.2) (show ownR 4 < rank by unfold ownR; simp; omega), HTX.out]
  have hm160 : kids.length ≤ 160 := by have := len_le_nodesL kids; omega
  clear hlen hfl hn IH hjl HTX HO
  generalize wrapT rank (.mk 4 t lo hi kids mn mx) = TT at *
  go_enter Tryz.func29, Tryz.ntmps29
  go_wp2
  generalize w.alloc (.cells #[.int .i64 4, .string t, .slice A lo.length ca, .slice B hi.length cb, .slice K kids.length kc, .int .i64 mn, .int .i64 mx] 38) = W0 at *
  go_loopw [5, 9] (fun s i wr => ∃ (j : Nat) (x : ByteArray), j ≤ kids.length ∧ i = .int .i64 j ∧ s = .string x ∧ Hid (bl x = joinT [32] ((kids.map sq).take j)) ∧ x.size ≤ 160000 ∧ Below W0.heap.size W0 wr) (fun _ i _ => kids.length - (intOf i).toNat)
  case atStart => exact ⟨0, ⟨#[]⟩, Nat.zero_le _, rfl, rfl, by show _ = _; simp [bl, joinT], by show (0 : Nat) ≤ _; omega, Below.refl _ _⟩
  case round =>
    obtain ⟨j, x, hj, rfl, rfl, HXS, hxz, hb⟩ := hrel
    have k4 : wr.cell? ⟨w.heap.size, 4, none⟩ = some (.slice K kids.length kc) := by rw [(OP.out.keep hb).cell]; rfl
    have kl := cell_lt k4
    simp only at kl
    by_cases hlt : j < kids.length
    · have hlt' : (j : Int) < (kids.length : Int) := by omega
      obtain ⟨b, off, rfl, hp⟩ := (HV.out.k.keep hb).at_ hlt
      have hmem := List.getElem_mem hlt
      have hok := HFL.out.2 _ hmem
      have hkd := HFL.out.1 _ hmem
      have hht := ht_mem hmem
      have hnn := nodesL_mem hmem
      have HNX := Lib.hid (join_take [32] (kids.map sq) j (by simpa using hlt))
      rw [List.getElem_map] at HNX
      have HLE := Lib.hid (joinT_take_le [32] (kids.map sq) (j + 1))
      have HWP := Lib.hid (wrap2q hkd)
      clear hmem
      generalize kids[j] = p at *
      obtain ⟨pk, pt, plo, phi, pkids, pmn, pmx⟩ := p
      rw [ht_mk] at hht
      rw [nodes_mk] at hnn
      obtain ⟨PA, PB, PK, pa, pb, pc, hc, hv⟩ := hp.open_
      obtain ⟨c0, c1, c2, c3, c4, c5, c6⟩ := hc
      have HC := Lib.hid (HI.out rs pk pt plo phi pkids pmn pmx PA PB PK pa pb pc B0 2 wr HN.out (by omega) hv hok (by omega) (by omega) (by omega))
      rw [HWP.out] at HC
      clear hp hv hok hkd HWP
      have HSZ : Hid (∀ s : ByteArray, bl s = (sq) (.mk pk pt plo phi pkids pmn pmx) → s.size + 1 ≤ 160005) := fun s hs => by
        have h1 := HLE.out
        have h2 := HJL.out
        rw [HNX.out] at h1
        rw [bl_size, hs]
        split at h1
        · omega
        · simp only [List.length_append, List.length_cons, List.length_nil] at h1
          omega
      by_cases hj0 : j = 0
      · have hj1 : ¬ (0 : Int) < (j : Int) := by omega
        have hj2 : ¬ 0 < j := by omega
        have HNX2 : Hid (joinT [32] ((kids.map sq).take (j + 1)) = (sq) (.mk pk pt plo phi pkids pmn pmx)) := by show _ = _; rw [HNX.out, if_pos hj0]
        have HX0 : Hid (bl x = []) := by show _ = _; rw [HXS.out, hj0]; simp [joinT]
        clear hj0 HNX
        go_wp2_with fail
        refine HC.out.mono ?_
        rintro e w2 ⟨s, rfl, hs, hb2⟩
        have hsz := HSZ.out s hs
        have HS := Lib.hid hs
        have hb' : Below W0.heap.size W0 w2 := hb.trans (hb2.mono hb.size)
        clear hs hb hb2 HC c0 c1 c2 c3 c4 c5 c6 k4
        go_wp2
        go_roundw
        case rel =>
          have e1 : bl (x ++ s) = joinT [32] ((kids.map sq).take (j + 1)) := by rw [bl_append, HX0.out, HS.out, HNX2.out]; rfl
          refine ⟨j + 1, x ++ s, by omega, by go_num, rfl, e1, ?_, hb'⟩
          have h1 := HLE.out
          have h2 := HJL.out
          rw [bl_size, e1]; omega
        case measure => simp [intOf]; omega
      · have hj1 : (0 : Int) < (j : Int) := by omega
        have hj2 : 0 < j := by omega
        have HNX2 : Hid (joinT [32] ((kids.map sq).take (j + 1)) = joinT [32] ((kids.map sq).take j) ++ [32] ++ (sq) (.mk pk pt plo phi pkids pmn pmx)) := by show _ = _; rw [HNX.out, if_neg hj0]
        clear hj0 HNX
        go_wp2_with fail
        refine HC.out.mono ?_
        rintro e w2 ⟨s, rfl, hs, hb2⟩
        have hsz := HSZ.out s hs
        have HS := Lib.hid hs
        have hb' : Below W0.heap.size W0 w2 := hb.trans (hb2.mono hb.size)
        clear hs hb hb2 HC c0 c1 c2 c3 c4 c5 c6 k4
        go_wp2
        go_roundw
        case rel =>
          have e1 : bl (x ++ (⟨#[32]⟩ : ByteArray) ++ s) = joinT [32] ((kids.map sq).take (j + 1)) := by rw [bl_append, bl_append, HXS.out, HS.out, HNX2.out]; rfl
          refine ⟨j + 1, x ++ (⟨#[32]⟩ : ByteArray) ++ s, by omega, by go_num, rfl, e1, ?_, hb'⟩
          have h1 := HLE.out
          have h2 := HJL.out
          rw [bl_size, e1]; omega
        case measure => simp [intOf]; omega
    · have hlt' : ¬ (j : Int) < (kids.length : Int) := by omega
      obtain rfl : j = kids.length := by omega
      have HXF : Hid (bl x = joinT [32] (kids.map sq)) := by show _ = _; rw [HXS.out, List.take_of_length_le (by simp)]
      have hz0 : ((kids.length : Int) == 0) = false := by rw [beq_eq_false_iff_ne]; omega
      have HB := Lib.hid (HBX.out.trans (hb.mono HBX.out.size))
      clear HXS
      by_cases hr : (1 : Int) < rank
      · have HW := Lib.hid (HW2.out (by omega))
        clear HW1 HW2
        go_wp2
        go_ret
        exact ⟨_, rfl, by rw [bl_append, bl_append, HXF.out, HW.out]; simp [bl, paren], HB.out⟩
      · have HW := Lib.hid (HW1.out (by omega))
        clear HW1 HW2
        go_wp2
        go_ret
        exact ⟨_, rfl, by rw [HXF.out, HW.out], HB.out⟩


set_option maxRecDepth 100000 in
set_option maxHeartbeats 4000000 in
theorem write5 {n : Nat} (IH : WrS n) (rs : List Ru) (t : ByteArray) (lo hi : List Int) (kids : List Pt) (mn mx : Int) (A B K : Option Addr) (ca cb kc B0 : Nat) (rank : Int) (w : World) (hn : NamesP rs) (hv : PtV w B0 lo hi kids A B K) (ho : OkP rs (.mk 5 t lo hi kids mn mx)) (hnd : nodesL kids + 1 ≤ 160) (r0 : 0 ≤ rank) (r3 : rank ≤ 3) (hh : htL kids ≤ n) (hne : kids.length ≠ 0) : Calls Tryz.prog 29 #[.agg #[.int .i64 5, .string t, .slice A lo.length ca, .slice B hi.length cb, .slice K kids.length kc, .int .i64 mn, .int .i64 mx], .int .i64 rank] w (TextIs (wrapT rank (.mk 5 t lo hi kids mn mx)) w) := by
  have HBX : Hid (Below w.heap.size w (w.alloc (.cells #[.int .i64 5, .string t, .slice A lo.length ca, .slice B hi.length cb, .slice K kids.length kc, .int .i64 mn, .int .i64 mx] 38))) := below_box _
  have HV := Lib.hid (hv.keep HBX.out)
  have hlen := txt_len hn ((Pt.mk 5 t lo hi kids mn mx).ht) (.mk 5 t lo hi kids mn mx) (Nat.le_refl _) ho
  rw [nodes_mk] at hlen
  have HO := Lib.hid ho
  have OP : Hid (Own (w.alloc (.cells #[.int .i64 5, .string t, .slice A lo.length ca, .slice B hi.length cb, .slice K kids.length kc, .int .i64 mn, .int .i64 mx] 38)) w.heap.size 38 [.int .i64 5, .string t, .slice A lo.length ca, .slice B hi.length cb, .slice K kids.length kc, .int .i64 mn, .int .i64 mx]) := Own.new w 38 #[.int .i64 5, .string t, .slice A lo.length ca, .slice B hi.length cb, .slice K kids.length kc, .int .i64 mn, .int .i64 mx]
  clear hv ho
  have hfl : FlatP 5 kids ∧ ∀ p ∈ kids, OkP rs p := by
    cases HO.out with
    | mk _ _ _ _ _ _ _ ha hk =>
      obtain ⟨_, ha⟩ := ha
      rcases ha with ⟨e, _⟩ | ⟨e, _⟩ | ⟨e, _⟩ | ⟨e, _, _, h⟩ | ⟨e, _, _, h⟩ | ⟨e, _⟩ <;> first | omega | exact ⟨h, hk⟩
  have HTX : Hid (txt (.mk 5 t lo hi kids mn mx) = joinT [32, 124, 32] (kids.map txt)) := by show _ = _; rw [txt_5]
  rw [HTX.out] at hlen
  have hjl : (joinT [32, 124, 32] (kids.map txt)).length ≤ 160000 := by omega
  have HFL := Lib.hid hfl
  have HI := Lib.hid IH
  have HN := Lib.hid hn
  have HJL := Lib.hid hjl
  have HW1 : Hid (¬ (0 : Int) < rank → wrapT rank (.mk 5 t lo hi kids mn mx) = joinT [32, 124, 32] (kids.map txt)) := fun h => by rw [wrap_no (show ¬ ownR 5 < rank by unfold ownR; simp; omega), HTX.out]
  have HW2 : Hid ((0 : Int) < rank → wrapT rank (.mk 5 t lo hi kids mn mx) = paren (joinT [32, 124, 32] (kids.map txt))) := fun h => by rw [wrap_yes (p := .mk 5 t lo hi kids mn mx) (fun h' => by have h5 := h'.1; simp [Pt.kind] at h5) (show ownR 5 < rank by unfold ownR; simp; omega), HTX.out]
  have hm160 : kids.length ≤ 160 := by have := len_le_nodesL kids; omega
  clear hlen hfl hn IH hjl HTX HO
  generalize wrapT rank (.mk 5 t lo hi kids mn mx) = TT at *
  go_enter Tryz.func29, Tryz.ntmps29
  go_wp2
  generalize w.alloc (.cells #[.int .i64 5, .string t, .slice A lo.length ca, .slice B hi.length cb, .slice K kids.length kc, .int .i64 mn, .int .i64 mx] 38) = W0 at *
  go_loopw [5, 10] (fun s i wr => ∃ (j : Nat) (x : ByteArray), j ≤ kids.length ∧ i = .int .i64 j ∧ s = .string x ∧ Hid (bl x = joinT [32, 124, 32] ((kids.map txt).take j)) ∧ x.size ≤ 160000 ∧ Below W0.heap.size W0 wr) (fun _ i _ => kids.length - (intOf i).toNat)
  case atStart => exact ⟨0, ⟨#[]⟩, Nat.zero_le _, rfl, rfl, by show _ = _; simp [bl, joinT], by show (0 : Nat) ≤ _; omega, Below.refl _ _⟩
  case round =>
    obtain ⟨j, x, hj, rfl, rfl, HXS, hxz, hb⟩ := hrel
    have k4 : wr.cell? ⟨w.heap.size, 4, none⟩ = some (.slice K kids.length kc) := by rw [(OP.out.keep hb).cell]; rfl
    have kl := cell_lt k4
    simp only at kl
    by_cases hlt : j < kids.length
    · have hlt' : (j : Int) < (kids.length : Int) := by omega
      obtain ⟨b, off, rfl, hp⟩ := (HV.out.k.keep hb).at_ hlt
      have hmem := List.getElem_mem hlt
      have hok := HFL.out.2 _ hmem
      have hkd := HFL.out.1 _ hmem
      have hht := ht_mem hmem
      have hnn := nodesL_mem hmem
      have HNX := Lib.hid (join_take [32, 124, 32] (kids.map txt) j (by simpa using hlt))
      rw [List.getElem_map] at HNX
      have HLE := Lib.hid (joinT_take_le [32, 124, 32] (kids.map txt) (j + 1))
      have HWP := Lib.hid (wrap1 hkd)
      clear hmem
      generalize kids[j] = p at *
      obtain ⟨pk, pt, plo, phi, pkids, pmn, pmx⟩ := p
      rw [ht_mk] at hht
      rw [nodes_mk] at hnn
      obtain ⟨PA, PB, PK, pa, pb, pc, hc, hv⟩ := hp.open_
      obtain ⟨c0, c1, c2, c3, c4, c5, c6⟩ := hc
      have HC := Lib.hid (HI.out rs pk pt plo phi pkids pmn pmx PA PB PK pa pb pc B0 1 wr HN.out (by omega) hv hok (by omega) (by omega) (by omega))
      rw [HWP.out] at HC
      clear hp hv hok hkd HWP
      have HSZ : Hid (∀ s : ByteArray, bl s = (txt) (.mk pk pt plo phi pkids pmn pmx) → s.size + 3 ≤ 160005) := fun s hs => by
        have h1 := HLE.out
        have h2 := HJL.out
        rw [HNX.out] at h1
        rw [bl_size, hs]
        split at h1
        · omega
        · simp only [List.length_append, List.length_cons, List.length_nil] at h1
          omega
      by_cases hj0 : j = 0
      · have hj1 : ¬ (0 : Int) < (j : Int) := by omega
        have hj2 : ¬ 0 < j := by omega
        have HNX2 : Hid (joinT [32, 124, 32] ((kids.map txt).take (j + 1)) = (txt) (.mk pk pt plo phi pkids pmn pmx)) := by show _ = _; rw [HNX.out, if_pos hj0]
        have HX0 : Hid (bl x = []) := by show _ = _; rw [HXS.out, hj0]; simp [joinT]
        clear hj0 HNX
        go_wp2_with fail
        refine HC.out.mono ?_
        rintro e w2 ⟨s, rfl, hs, hb2⟩
        have hsz := HSZ.out s hs
        have HS := Lib.hid hs
        have hb' : Below W0.heap.size W0 w2 := hb.trans (hb2.mono hb.size)
        clear hs hb hb2 HC c0 c1 c2 c3 c4 c5 c6 k4
        go_wp2
        go_roundw
        case rel =>
          have e1 : bl (x ++ s) = joinT [32, 124, 32] ((kids.map txt).take (j + 1)) := by rw [bl_append, HX0.out, HS.out, HNX2.out]; rfl
          refine ⟨j + 1, x ++ s, by omega, by go_num, rfl, e1, ?_, hb'⟩
          have h1 := HLE.out
          have h2 := HJL.out
          rw [bl_size, e1]; omega
        case measure => simp [intOf]; omega
      · have hj1 : (0 : Int) < (j : Int) := by omega
        have hj2 : 0 < j := by omega
        have HNX2 : Hid (joinT [32, 124, 32] ((kids.map txt).take (j + 1)) = joinT [32, 124, 32] ((kids.map txt).take j) ++ [32, 124, 32] ++ (txt) (.mk pk pt plo phi pkids pmn pmx)) := by show _ = _; rw [HNX.out, if_neg hj0]
        clear hj0 HNX
        go_wp2_with fail
        refine HC.out.mono ?_
        rintro e w2 ⟨s, rfl, hs, hb2⟩
        have hsz := HSZ.out s hs
        have HS := Lib.hid hs
        have hb' : Below W0.heap.size W0 w2 := hb.trans (hb2.mono hb.size)
        clear hs hb hb2 HC c0 c1 c2 c3 c4 c5 c6 k4
        go_wp2
        go_roundw
        case rel =>
          have e1 : bl (x ++ (⟨#[32, 124, 32]⟩ : ByteArray) ++ s) = joinT [32, 124, 32] ((kids.map txt).take (j + 1)) := by rw [bl_append, bl_append, HXS.out, HS.out, HNX2.out]; rfl
          refine ⟨j + 1, x ++ (⟨#[32, 124, 32]⟩ : ByteArray) ++ s, by omega, by go_num, rfl, e1, ?_, hb'⟩
          have h1 := HLE.out
          have h2 := HJL.out
          rw [bl_size, e1]; omega
        case measure => simp [intOf]; omega
    · have hlt' : ¬ (j : Int) < (kids.length : Int) := by omega
      obtain rfl : j = kids.length := by omega
      have HXF : Hid (bl x = joinT [32, 124, 32] (kids.map txt)) := by show _ = _; rw [HXS.out, List.take_of_length_le (by simp)]
      have hz0 : ((kids.length : Int) == 0) = false := by rw [beq_eq_false_iff_ne]; omega
      have HB := Lib.hid (HBX.out.trans (hb.mono HBX.out.size))
      clear HXS
      by_cases hr : (0 : Int) < rank
      · have HW := Lib.hid (HW2.out (by omega))
        clear HW1 HW2
        go_wp2
        go_ret
        exact ⟨_, rfl, by rw [bl_append, bl_append, HXF.out, HW.out]; simp [bl, paren], HB.out⟩
      · have HW := Lib.hid (HW1.out (by omega))
        clear HW1 HW2
        go_wp2
        go_ret
        exact ⟨_, rfl, by rw [HXF.out, HW.out], HB.out⟩


set_option maxRecDepth 100000 in
set_option maxHeartbeats 4000000 in
theorem write40 (rs : List Ru) (t : ByteArray) (lo hi : List Int) (kids : List Pt) (mn mx : Int) (A B K : Option Addr) (ca cb kc B0 : Nat) (rank : Int) (w : World) (hn : NamesP rs) (hv : PtV w B0 lo hi kids A B K) (ho : OkP rs (.mk 4 t lo hi kids mn mx)) (hnd : nodesL kids + 1 ≤ 160) (r0 : 0 ≤ rank) (r3 : rank ≤ 3) (hne : kids.length = 0) : Calls Tryz.prog 29 #[.agg #[.int .i64 4, .string t, .slice A lo.length ca, .slice B hi.length cb, .slice K kids.length kc, .int .i64 mn, .int .i64 mx], .int .i64 rank] w (TextIs (wrapT rank (.mk 4 t lo hi kids mn mx)) w) := by
  have HBX : Hid (Below w.heap.size w (w.alloc (.cells #[.int .i64 4, .string t, .slice A lo.length ca, .slice B hi.length cb, .slice K kids.length kc, .int .i64 mn, .int .i64 mx] 38))) := below_box _
  have HV := Lib.hid (hv.keep HBX.out)
  have hlen := txt_len hn ((Pt.mk 4 t lo hi kids mn mx).ht) (.mk 4 t lo hi kids mn mx) (Nat.le_refl _) ho
  rw [nodes_mk] at hlen
  have HO := Lib.hid ho
  have OP : Hid (Own (w.alloc (.cells #[.int .i64 4, .string t, .slice A lo.length ca, .slice B hi.length cb, .slice K kids.length kc, .int .i64 mn, .int .i64 mx] 38)) w.heap.size 38 [.int .i64 4, .string t, .slice A lo.length ca, .slice B hi.length cb, .slice K kids.length kc, .int .i64 mn, .int .i64 mx]) := Own.new w 38 #[.int .i64 4, .string t, .slice A lo.length ca, .slice B hi.length cb, .slice K kids.length kc, .int .i64 mn, .int .i64 mx]
  clear hv ho
  have HT : Hid (wrapT rank (.mk 4 t lo hi kids mn mx) = [40, 41]) := by
    show _ = _
    unfold wrapT
    rw [if_pos ⟨rfl, hne⟩, txt_4, if_pos hne]
  generalize wrapT rank (.mk 4 t lo hi kids mn mx) = TT at *
  obtain rfl : kids = [] := List.eq_nil_of_length_eq_zero hne
  clear hlen hne HO
  go_enter Tryz.func29, Tryz.ntmps29
  go_wp2
  go_loop [9] (fun i => i = .int .i64 (0 : Nat)) (fun _ => 0)
  case atStart => rfl
  case round =>
    subst hrel
    go_wp2
    go_ret
    exact ⟨_, rfl, by rw [HT.out]; rfl, HBX.out⟩

set_option maxRecDepth 100000 in
set_option maxHeartbeats 4000000 in
theorem write6 {n : Nat} (IH : WrS n) (rs : List Ru) (t : ByteArray) (lo hi : List Int) (kids : List Pt) (mn mx : Int) (A B K : Option Addr) (ca cb kc B0 : Nat) (rank : Int) (w : World) (hn : NamesP rs) (hv : PtV w B0 lo hi kids A B K) (ho : OkP rs (.mk 6 t lo hi kids mn mx)) (hnd : nodesL kids + 1 ≤ 160) (r0 : 0 ≤ rank) (r3 : rank ≤ 3) (hh : htL kids ≤ n) : Calls Tryz.prog 29 #[.agg #[.int .i64 6, .string t, .slice A lo.length ca, .slice B hi.length cb, .slice K kids.length kc, .int .i64 mn, .int .i64 mx], .int .i64 rank] w (TextIs (wrapT rank (.mk 6 t lo hi kids mn mx)) w) := by
  have HBX : Hid (Below w.heap.size w (w.alloc (.cells #[.int .i64 6, .string t, .slice A lo.length ca, .slice B hi.length cb, .slice K kids.length kc, .int .i64 mn, .int .i64 mx] 38))) := below_box _
  have HV := Lib.hid (hv.keep HBX.out)
  have hlen := txt_len hn ((Pt.mk 6 t lo hi kids mn mx).ht) (.mk 6 t lo hi kids mn mx) (Nat.le_refl _) ho
  rw [nodes_mk] at hlen
  have HO := Lib.hid ho
  have OP : Hid (Own (w.alloc (.cells #[.int .i64 6, .string t, .slice A lo.length ca, .slice B hi.length cb, .slice K kids.length kc, .int .i64 mn, .int .i64 mx] 38)) w.heap.size 38 [.int .i64 6, .string t, .slice A lo.length ca, .slice B hi.length cb, .slice K kids.length kc, .int .i64 mn, .int .i64 mx]) := Own.new w 38 #[.int .i64 6, .string t, .slice A lo.length ca, .slice B hi.length cb, .slice K kids.length kc, .int .i64 mn, .int .i64 mx]
  clear hv ho
  have hfl : (kids.length = 1 ∧ 0 ≤ mn ∧ mn ≤ 6 ∧ (mx = -1 ∨ (0 ≤ mx ∧ mx ≤ 6))) ∧ ∀ p ∈ kids, OkP rs p := by
    cases HO.out with
    | mk _ _ _ _ _ _ _ ha hk =>
      obtain ⟨_, ha⟩ := ha
      rcases ha with ⟨e, _⟩ | ⟨e, _⟩ | ⟨e, _⟩ | ⟨e, _⟩ | ⟨e, _⟩ | ⟨e, _, h1, h2, h3, h4⟩ <;> first | omega | exact ⟨⟨h1, h2, h3, by omega⟩, hk⟩
  obtain ⟨⟨h1, m0, m6, mxx⟩, hok⟩ := hfl
  obtain ⟨p, rfl⟩ : ∃ p, kids = [p] := by
    match kids, h1 with
    | [p], _ => exact ⟨p, rfl⟩
  have hokp := hok p (by simp)
  have hht := ht_mem (p := p) (kids := [p]) (by simp)
  have hnn := nodesL_mem (p := p) (kids := [p]) (by simp)
  have HW3 := Lib.hid (wrap3 hokp)
  have HTX : Hid (txt (.mk 6 t lo hi [p] mn mx) = encl (decide (0 < p.kids.length)) (txt p) ++ timesT mn mx) := txt_6
  have HW1 : Hid (¬ (2 : Int) < rank → wrapT rank (.mk 6 t lo hi [p] mn mx) = encl (decide (0 < p.kids.length)) (txt p) ++ timesT mn mx) := fun h => by rw [wrap_no (show ¬ ownR 6 < rank by unfold ownR; simp; omega), HTX.out]
  have HW2 : Hid ((2 : Int) < rank → wrapT rank (.mk 6 t lo hi [p] mn mx) = paren (encl (decide (0 < p.kids.length)) (txt p) ++ timesT mn mx)) := fun h => by rw [wrap_yes (p := .mk 6 t lo hi [p] mn mx) (fun h' => by have h5 := h'.1; simp [Pt.kind] at h5) (show ownR 6 < rank by unfold ownR; simp; omega), HTX.out]
  rw [HTX.out] at hlen
  obtain ⟨b, off, rfl, hp⟩ := HV.out.k.at_ (i := 0) (by simp)
  simp only [List.getElem_cons_zero, Nat.zero_mul, Nat.add_zero] at hp
  generalize wrapT rank (.mk 6 t lo hi [p] mn mx) = TT at *
  have HTL : Hid (∀ s : ByteArray, bl s = wrapT 3 p → s.size ≤ 160000) := fun s hs => by
    rw [bl_size, hs, HW3.out]
    simp only [List.length_append] at hlen
    omega
  have hk2 : (0 : Int) < ([p].length : Int) := by simp
  obtain ⟨pk, pt, plo, phi, pkids, pmn, pmx⟩ := p
  rw [ht_mk] at hht
  rw [nodes_mk] at hnn
  obtain ⟨PA, PB, PK, pa, pb, pc, hc, hv⟩ := hp.open_
  obtain ⟨c0, c1, c2, c3, c4, c5, c6⟩ := hc
  have HCK : Hid (∀ w2, Below (w.alloc (.cells #[.int .i64 6, .string t, .slice A lo.length ca, .slice B hi.length cb, .slice (some ⟨b, off, none⟩) [Pt.mk pk pt plo phi pkids pmn pmx].length kc, .int .i64 mn, .int .i64 mx] 38)).heap.size (w.alloc (.cells #[.int .i64 6, .string t, .slice A lo.length ca, .slice B hi.length cb, .slice (some ⟨b, off, none⟩) [Pt.mk pk pt plo phi pkids pmn pmx].length kc, .int .i64 mn, .int .i64 mx] 38)) w2 → Calls Tryz.prog 29 #[.agg #[.int .i64 pk, .string pt, .slice PA plo.length pa, .slice PB phi.length pb, .slice PK pkids.length pc, .int .i64 pmn, .int .i64 pmx], .int .i64 3] w2 (TextIs (wrapT 3 (.mk pk pt plo phi pkids pmn pmx)) w2)) := fun w2 h2 => IH rs pk pt plo phi pkids pmn pmx PA PB PK pa pb pc B0 3 w2 hn (by omega) (hv.keep h2) hokp (by omega) (by omega) (by omega)
  clear hlen hn IH HO hok hokp hp hv hht hnn h1 HTX
  simp only [List.length_cons, List.length_nil, Nat.zero_add] at *
  go_enter Tryz.func29, Tryz.ntmps29
  go_wp2
  have k0 : (w.alloc (.cells #[.int .i64 6, .string t, .slice A lo.length ca, .slice B hi.length cb, .slice (some ⟨b, off, none⟩) 1 kc, .int .i64 mn, .int .i64 mx] 38)).cell? ⟨w.heap.size, 0, none⟩ = some (.int .i64 6) := by simp
  have k1 : (w.alloc (.cells #[.int .i64 6, .string t, .slice A lo.length ca, .slice B hi.length cb, .slice (some ⟨b, off, none⟩) 1 kc, .int .i64 mn, .int .i64 mx] 38)).cell? ⟨w.heap.size, 1, none⟩ = some (.string t) := by simp
  have k2 : (w.alloc (.cells #[.int .i64 6, .string t, .slice A lo.length ca, .slice B hi.length cb, .slice (some ⟨b, off, none⟩) 1 kc, .int .i64 mn, .int .i64 mx] 38)).cell? ⟨w.heap.size, 2, none⟩ = some (.slice A lo.length ca) := by simp
  have k3 : (w.alloc (.cells #[.int .i64 6, .string t, .slice A lo.length ca, .slice B hi.length cb, .slice (some ⟨b, off, none⟩) 1 kc, .int .i64 mn, .int .i64 mx] 38)).cell? ⟨w.heap.size, 3, none⟩ = some (.slice B hi.length cb) := by simp
  have k4 : (w.alloc (.cells #[.int .i64 6, .string t, .slice A lo.length ca, .slice B hi.length cb, .slice (some ⟨b, off, none⟩) 1 kc, .int .i64 mn, .int .i64 mx] 38)).cell? ⟨w.heap.size, 4, none⟩ = some (.slice (some ⟨b, off, none⟩) 1 kc) := by simp
  have k5 : (w.alloc (.cells #[.int .i64 6, .string t, .slice A lo.length ca, .slice B hi.length cb, .slice (some ⟨b, off, none⟩) 1 kc, .int .i64 mn, .int .i64 mx] 38)).cell? ⟨w.heap.size, 5, none⟩ = some (.int .i64 mn) := by simp
  have k6 : (w.alloc (.cells #[.int .i64 6, .string t, .slice A lo.length ca, .slice B hi.length cb, .slice (some ⟨b, off, none⟩) 1 kc, .int .i64 mn, .int .i64 mx] 38)).cell? ⟨w.heap.size, 6, none⟩ = some (.int .i64 mx) := by simp
  generalize w.alloc (.cells #[.int .i64 6, .string t, .slice A lo.length ca, .slice B hi.length cb, .slice (some ⟨b, off, none⟩) 1 kc, .int .i64 mn, .int .i64 mx] 38) = W0 at *
  go_region_held3 (fun X => X.cell? ⟨w.heap.size, 0, none⟩ = some (.int .i64 6) ∧ X.cell? ⟨w.heap.size, 1, none⟩ = some (.string t) ∧ X.cell? ⟨w.heap.size, 2, none⟩ = some (.slice A lo.length ca) ∧ X.cell? ⟨w.heap.size, 3, none⟩ = some (.slice B hi.length cb) ∧ X.cell? ⟨w.heap.size, 4, none⟩ = some (.slice (some ⟨b, off, none⟩) 1 kc) ∧ X.cell? ⟨w.heap.size, 5, none⟩ = some (.int .i64 mn) ∧ X.cell? ⟨w.heap.size, 6, none⟩ = some (.int .i64 mx) ∧ X.cell? ⟨b, off, none⟩ = some (.int .i64 pk) ∧ X.cell? ⟨b, off + 1, none⟩ = some (.string pt) ∧ X.cell? ⟨b, off + 2, none⟩ = some (.slice PA plo.length pa) ∧ X.cell? ⟨b, off + 3, none⟩ = some (.slice PB phi.length pb) ∧ X.cell? ⟨b, off + 4, none⟩ = some (.slice PK pkids.length pc) ∧ X.cell? ⟨b, off + 5, none⟩ = some (.int .i64 pmn) ∧ X.cell? ⟨b, off + 6, none⟩ = some (.int .i64 pmx))
    (first | exact ⟨cell_keep hb3 (cell_keep hb2 k0), cell_keep hb3 (cell_keep hb2 k1), cell_keep hb3 (cell_keep hb2 k2), cell_keep hb3 (cell_keep hb2 k3), cell_keep hb3 (cell_keep hb2 k4), cell_keep hb3 (cell_keep hb2 k5), cell_keep hb3 (cell_keep hb2 k6), cell_keep hb3 (cell_keep hb2 c0), cell_keep hb3 (cell_keep hb2 c1), cell_keep hb3 (cell_keep hb2 c2), cell_keep hb3 (cell_keep hb2 c3), cell_keep hb3 (cell_keep hb2 c4), cell_keep hb3 (cell_keep hb2 c5), cell_keep hb3 (cell_keep hb2 c6)⟩ | exact ⟨cell_keep hb2 k0, cell_keep hb2 k1, cell_keep hb2 k2, cell_keep hb2 k3, cell_keep hb2 k4, cell_keep hb2 k5, cell_keep hb2 k6, cell_keep hb2 c0, cell_keep hb2 c1, cell_keep hb2 c2, cell_keep hb2 c3, cell_keep hb2 c4, cell_keep hb2 c5, cell_keep hb2 c6⟩ | exact ⟨k0, k1, k2, k3, k4, k5, k6, c0, c1, c2, c3, c4, c5, c6⟩)
    (first | (go_at_call 60; refine (l2Times_any 6 t lo.length hi.length 1 mn mx A B (some ⟨b, off, none⟩) ca cb kc _ m0 m6 mxx).mono ?_; rintro e w3 ⟨s2, rfl, h2, hb3⟩; have z2 : s2.size ≤ 5 := by { rw [bl_size, h2]; exact times_len mn mx }; have H2 := Lib.hid h2; clear h2; have q3 : ¬ 9223372036854775807 < s1.size + s2.size := (by omega))
           | (go_at_call 29; refine (HCK.out _ (Below.refl _ _).drew).mono ?_; rintro e w2 ⟨s1, rfl, h1, hb2⟩; have z1 : s1.size ≤ 160000 := HTL.out s1 h1; have H1 := Lib.hid h1; clear h1))
  have hbb := Lib.hid (HBX.out.trans ((((Below.refl _ _).drew : Below W0.heap.size W0 W0.drew).trans (hb2.trans (hb3.mono hb2.size))).mono HBX.out.size))
  rw [HW3.out] at H1
  by_cases hr : (2 : Int) < rank
  · have HW := Lib.hid (HW2.out (by omega))
    clear HW1 HW2
    go_wp2
    go_ret
    exact ⟨_, rfl, by rw [bl_append, bl_append, bl_append, H1.out, H2.out, HW.out]; simp [bl, paren], hbb.out⟩
  · have HW := Lib.hid (HW1.out (by omega))
    clear HW1 HW2
    go_wp2
    go_ret
    exact ⟨_, rfl, by rw [bl_append, H1.out, H2.out, HW.out], hbb.out⟩

theorem writeS {n : Nat} (IH : WrS n) : WrS (n + 1) := by
  intro rs k t lo hi kids mn mx A B K ca cb kc B0 rank w hn hh hv ho hnd r0 r3
  have hk : k = 1 ∨ k = 2 ∨ k = 3 ∨ k = 4 ∨ k = 5 ∨ k = 6 := by
    cases ho with
    | mk _ _ _ _ _ _ _ ha _ =>
      obtain ⟨_, ha⟩ := ha
      rcases ha with ⟨e, _⟩ | ⟨e, _⟩ | ⟨e, _⟩ | ⟨e, _⟩ | ⟨e, _⟩ | ⟨e, _⟩ <;> simp [e]
  rcases hk with rfl | rfl | rfl | rfl | rfl | rfl
  · exact write1 rs t lo hi kids mn mx A B K ca cb kc B0 rank w hn hv ho hnd r0 r3
  · exact write2 rs t lo hi kids mn mx A B K ca cb kc B0 rank w hn hv ho hnd r0 r3
  · exact write3 rs t lo hi kids mn mx A B K ca cb kc B0 rank w hn hv ho hnd r0 r3
  · by_cases h0 : kids.length = 0
    · exact write40 rs t lo hi kids mn mx A B K ca cb kc B0 rank w hn hv ho hnd r0 r3 h0
    · exact write4 IH rs t lo hi kids mn mx A B K ca cb kc B0 rank w hn hv ho hnd r0 r3 (by omega) h0
  · have h0 : kids.length ≠ 0 := by
      cases ho with
      | mk _ _ _ _ _ _ _ ha _ =>
        obtain ⟨_, ha⟩ := ha
        rcases ha with ⟨e, _⟩ | ⟨e, _⟩ | ⟨e, _⟩ | ⟨e, _⟩ | ⟨e, _, h, _⟩ | ⟨e, _⟩ <;> omega
    exact write5 IH rs t lo hi kids mn mx A B K ca cb kc B0 rank w hn hv ho hnd r0 r3 (by omega) h0
  · exact write6 IH rs t lo hi kids mn mx A B K ca cb kc B0 rank w hn hv ho hnd r0 r3 (by omega)
theorem write_all : ∀ n, WrS n
  | 0 => by intro rs k t lo hi kids mn mx A B K ca cb kc B0 rank w hn hh; omega
  | n + 1 => writeS (write_all n)

end Go.Proofs.YtadfjdgjlgpncaaGreatDoor
