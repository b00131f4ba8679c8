/- The specification's text of a part: spec.l2Write (written by tools/gen_w6.py). -/
import Derived.Test.YtadfjdgjlgpncaaGreatDoorW1
import Derived.Test.YtadfjdgjlgpncaaGreatDoorW5
namespace Go.Proofs.YtadfjdgjlgpncaaGreatDoor
open Go.RowKit
set_option linter.unusedVariables false

theorem wrap_no {rank : Int} {p : Pt} (h : ¬ ownR p.kind < rank) : wrapT rank p = txt p := by
  unfold wrapT; split
  · rfl
  · simp [encl, h]
theorem wrap_yes {rank : Int} {p : Pt} (h0 : ¬ (p.kind = 4 ∧ p.kids.length = 0)) (h : ownR p.kind < rank) : wrapT rank p = paren (txt p) := by
  unfold wrapT; rw [if_neg h0]; simp [encl, h]
theorem sz_append (a b : ByteArray) : (a ++ b).size = a.size + b.size := by rw [bl_size, bl_append, List.length_append, ← bl_size, ← bl_size]
theorem flat_take (f : UInt8 → List UInt8) (l : List UInt8) (j : Nat) (h : j < l.length) : (l.take (j + 1)).flatMap f = (l.take j).flatMap f ++ f l[j] := by
  rw [List.take_succ_eq_append_getElem h, List.flatMap_append]; simp
theorem ranges_succ (lo hi : List Int) (j : Nat) : rangesT lo hi (j + 1) = rangesT lo hi j ++ rangeT lo hi j := by
  unfold rangesT; rw [List.range_succ, List.flatMap_append]; simp
theorem u8_int {z : Int} (h0 : 0 ≤ z) (h1 : z ≤ 255) : ((u8 z).toNat : Int) = z := by
  unfold u8; simp [UInt8.toNat_ofNat]; omega
theorem join_take (sep : List UInt8) (L : List (List UInt8)) (j : Nat) (h : j < L.length) : joinT sep (L.take (j + 1)) = (if j = 0 then L[j] else joinT sep (L.take j) ++ sep ++ L[j]) := by
  rw [List.take_succ_eq_append_getElem h]
  split
  · rename_i h0; subst h0; simp [joinT]
  · rename_i h0
    exact joinT_snoc sep _ _ (by intro e; have := congrArg List.length e; rw [List.length_take, List.length_nil] at this; omega)
theorem joinT_take_le (sep : List UInt8) (L : List (List UInt8)) (j : Nat) : (joinT sep (L.take j)).length ≤ (joinT sep L).length := by
  cases L with
  | nil => simp
  | cons x r =>
    cases j with
    | zero => simp [joinT]
    | succ n =>
      simp only [List.take_succ_cons, joinT, List.length_append]
      have : ((r.take n).flatMap (fun y => sep ++ y)).length ≤ (r.flatMap (fun y => sep ++ y)).length := by
        have h := List.take_append_drop n r
        have h2 : r.flatMap (fun y => sep ++ y) = (r.take n).flatMap (fun y => sep ++ y) ++ (r.drop n).flatMap (fun y => sep ++ y) := by rw [← List.flatMap_append, h]
        rw [h2, List.length_append]; omega
      omega

set_option maxRecDepth 100000 in
set_option maxHeartbeats 4000000 in
theorem write1 (rs : List Ru) (t : ByteArray) (lo hi : List Int) (kids : List Pt) (mn mx : Int) (A B K : Option Addr) (ca cb kc B0 : Nat) (rank : Int) (w : World) (hn : NamesP rs) (hv : PtV w B0 lo hi kids A B K) (ho : OkP rs (.mk 1 t lo hi kids mn mx)) (hnd : nodesL kids + 1 ≤ 160) (r0 : 0 ≤ rank) (r3 : rank ≤ 3) : Calls Tryz.prog 29 #[.agg #[.int .i64 1, .string t, .slice A lo.length ca, .slice B hi.length cb, .slice K kids.length kc, .int .i64 mn, .int .i64 mx], .int .i64 rank] w (TextIs (wrapT rank (.mk 1 t lo hi kids mn mx)) w) := by
  have HBX : Hid (Below w.heap.size w (w.alloc (.cells #[.int .i64 1, .string t, .slice A lo.length ca, .slice B hi.length cb, .slice K kids.length kc, .int .i64 mn, .int .i64 mx] 38))) := below_box _
  have HV := Lib.hid (hv.keep HBX.out)
  have hlen := txt_len hn ((Pt.mk 1 t lo hi kids mn mx).ht) (.mk 1 t lo hi kids mn mx) (Nat.le_refl _) ho
  rw [nodes_mk] at hlen
  have HO := Lib.hid ho
  have OP : Hid (Own (w.alloc (.cells #[.int .i64 1, .string t, .slice A lo.length ca, .slice B hi.length cb, .slice K kids.length kc, .int .i64 mn, .int .i64 mx] 38)) w.heap.size 38 [.int .i64 1, .string t, .slice A lo.length ca, .slice B hi.length cb, .slice K kids.length kc, .int .i64 mn, .int .i64 mx]) := Own.new w 38 #[.int .i64 1, .string t, .slice A lo.length ca, .slice B hi.length cb, .slice K kids.length kc, .int .i64 mn, .int .i64 mx]
  clear hv ho
  rw [wrap_no (show ¬ ownR 1 < rank by unfold ownR; simp; omega), txt_1]
  have hts : t.size ≤ 20 := by
    cases HO.out with
    | mk _ _ _ _ _ _ _ ha _ =>
      obtain ⟨_, ha⟩ := ha
      rcases ha with ⟨_, _, h, _⟩ | ⟨e, _⟩ | ⟨e, _⟩ | ⟨e, _⟩ | ⟨e, _⟩ | ⟨e, _⟩ <;> omega
  have nr : ¬ (3 : Int) < rank := by omega
  go_enter Tryz.func29, Tryz.ntmps29
  go_wp2
  generalize w.alloc (.cells #[.int .i64 1, .string t, .slice A lo.length ca, .slice B hi.length cb, .slice K kids.length kc, .int .i64 mn, .int .i64 mx] 38) = W0 at *
  go_loopw [5, 7] (fun s i wr => ∃ (j : Nat) (x : ByteArray), j ≤ t.size ∧ i = .int .i64 j ∧ s = .string x ∧ Hid (bl x = ((bl t).take j).flatMap (escB qO)) ∧ x.size ≤ 3 * j ∧ Below W0.heap.size W0 wr) (fun _ i _ => t.size - (intOf i).toNat)
  case atStart => exact ⟨0, ⟨#[]⟩, Nat.zero_le _, rfl, rfl, by show _ = _; simp [bl], by show (0 : Nat) ≤ _; omega, Below.refl _ _⟩
  case round =>
    obtain ⟨j, x, hj, rfl, rfl, HXS, hxz, hb⟩ := hrel
    have k1 : wr.cell? ⟨w.heap.size, 1, none⟩ = some (.string t) := by rw [(OP.out.keep hb).cell]; rfl
    have kl := cell_lt k1
    simp only at kl
    by_cases hlt : j < t.size
    · have hlt' : (j : Int) < (t.size : Int) := by omega
      have hw : IntKind.i64.wrap (t[j].toNat : Int) = (t[j].toNat : Int) := by have := t[j].toNat_lt; exact IntWalk.i64_in _ (by omega)
      have HNX := Lib.hid (flat_take (escB qO) (bl t) j (by rw [← bl_size]; exact hlt))
      rw [bl_get t j hlt] at HNX
      have HC := Lib.hid (l2Byte_any t[j] ⟨#[34]⟩ wr (by decide))
      go_wp2_with fail
      refine HC.out.mono ?_
      rintro e w2 ⟨s, rfl, hs, hb2⟩
      have hsz : s.size ≤ 3 := by rw [bl_size, hs]; exact (escB_len _ _).2
      have HS := Lib.hid hs
      have hb' : Below W0.heap.size W0 w2 := hb.trans (hb2.mono hb.size)
      clear hs hb hb2 k1 HC
      go_wp2
      go_roundw
      case rel =>
        refine ⟨j + 1, x ++ s, by omega, by go_num, rfl, ?_, ?_, hb'⟩
        · show _ = _
          rw [bl_append, HXS.out, HS.out, HNX.out]; rfl
        · rw [sz_append]; omega
      case measure => simp [intOf]; omega
    · have hlt' : ¬ (j : Int) < (t.size : Int) := by omega
      have HT : Hid (bl x = (bl t).flatMap (escB qO)) := by
        show _ = _
        rw [HXS.out, List.take_of_length_le (by rw [← bl_size]; omega)]
      have hx3 : x.size ≤ 60 := by omega
      clear HXS
      have HB := Lib.hid (HBX.out.trans (hb.mono HBX.out.size))
      go_wp2
      go_ret
      exact ⟨_, rfl, by rw [bl_append, bl_append, HT.out]; simp [textT, bl], HB.out⟩

set_option maxRecDepth 100000 in
set_option maxHeartbeats 4000000 in
theorem write2 (rs : List Ru) (t : ByteArray) (lo hi : List Int) (kids : List Pt) (mn mx : Int) (A B K : Option Addr) (ca cb kc B0 : Nat) (rank : Int) (w : World) (hn : NamesP rs) (hv : PtV w B0 lo hi kids A B K) (ho : OkP rs (.mk 2 t lo hi kids mn mx)) (hnd : nodesL kids + 1 ≤ 160) (r0 : 0 ≤ rank) (r3 : rank ≤ 3) : Calls Tryz.prog 29 #[.agg #[.int .i64 2, .string t, .slice A lo.length ca, .slice B hi.length cb, .slice K kids.length kc, .int .i64 mn, .int .i64 mx], .int .i64 rank] w (TextIs (wrapT rank (.mk 2 t lo hi kids mn mx)) w) := by
  have HBX : Hid (Below w.heap.size w (w.alloc (.cells #[.int .i64 2, .string t, .slice A lo.length ca, .slice B hi.length cb, .slice K kids.length kc, .int .i64 mn, .int .i64 mx] 38))) := below_box _
  have HV := Lib.hid (hv.keep HBX.out)
  have hlen := txt_len hn ((Pt.mk 2 t lo hi kids mn mx).ht) (.mk 2 t lo hi kids mn mx) (Nat.le_refl _) ho
  rw [nodes_mk] at hlen
  have HO := Lib.hid ho
  have OP : Hid (Own (w.alloc (.cells #[.int .i64 2, .string t, .slice A lo.length ca, .slice B hi.length cb, .slice K kids.length kc, .int .i64 mn, .int .i64 mx] 38)) w.heap.size 38 [.int .i64 2, .string t, .slice A lo.length ca, .slice B hi.length cb, .slice K kids.length kc, .int .i64 mn, .int .i64 mx]) := Own.new w 38 #[.int .i64 2, .string t, .slice A lo.length ca, .slice B hi.length cb, .slice K kids.length kc, .int .i64 mn, .int .i64 mx]
  clear hv ho
  rw [wrap_no (show ¬ ownR 2 < rank by unfold ownR; simp; omega), txt_2]
  have hcl : ClassP lo hi := by
    cases HO.out with
    | mk _ _ _ _ _ _ _ ha _ =>
      obtain ⟨_, ha⟩ := ha
      rcases ha with ⟨e, _⟩ | ⟨_, _, _, h⟩ | ⟨e, _⟩ | ⟨e, _⟩ | ⟨e, _⟩ | ⟨e, _⟩ <;> first | omega | exact h
  have hl128 := class_len hcl
  have hlh : hi.length = lo.length := hcl.2.1.symm
  have HCL := Lib.hid hcl
  have hlh1 : lo.length ≤ hi.length := by omega
  have hlh2 : hi.length ≤ lo.length := by omega
  clear hcl hlh
  have nr : ¬ (3 : Int) < rank := by omega
  go_enter Tryz.func29, Tryz.ntmps29
  go_wp2
  generalize w.alloc (.cells #[.int .i64 2, .string t, .slice A lo.length ca, .slice B hi.length cb, .slice K kids.length kc, .int .i64 mn, .int .i64 mx] 38) = W0 at *
  go_loopw [5, 8] (fun s i wr => ∃ (j : Nat) (x : ByteArray), j ≤ lo.length ∧ i = .int .i64 j ∧ s = .string x ∧ Hid (bl x = rangesT lo hi j) ∧ x.size ≤ 7 * j ∧ Below W0.heap.size W0 wr) (fun _ i _ => lo.length - (intOf i).toNat)
  case atStart => exact ⟨0, ⟨#[]⟩, Nat.zero_le _, rfl, rfl, by show _ = _; simp [bl, rangesT], by show (0 : Nat) ≤ _; omega, Below.refl _ _⟩
  case round =>
    obtain ⟨j, x, hj, rfl, rfl, HXS, hxz, hb⟩ := hrel
    have k2 : wr.cell? ⟨w.heap.size, 2, none⟩ = some (.slice A lo.length ca) := by rw [(OP.out.keep hb).cell]; rfl
    have k3 : wr.cell? ⟨w.heap.size, 3, none⟩ = some (.slice B hi.length cb) := by rw [(OP.out.keep hb).cell]; rfl
    have kl := cell_lt k2
    simp only at kl
    by_cases hlt : j < lo.length
    · have hlt' : (j : Int) < (lo.length : Int) := by omega
      have hlt2 : (j : Int) < (hi.length : Int) := by omega
      obtain ⟨b, off, rfl, hc⟩ := (HV.out.a.keep hb).gi hlt
      obtain ⟨b', off', rfl, hc'⟩ := (HV.out.b.keep hb).gi (show j < hi.length by omega)
      obtain ⟨q1, q2, q3, q4, _⟩ := HCL.out.2.2 j hlt
      have HNX := Lib.hid (ranges_succ lo hi j)
      have HRT : Hid (rangeT lo hi j = escB cO (u8 (gi lo j)) ++ (if gi lo j < gi hi j then 45 :: escB cO (u8 (gi hi j)) else [])) := rfl
      have e1 := u8_int q1 q2
      have e2 := u8_int (show 0 ≤ gi hi j by omega) q4
      have HC1 := Lib.hid (l2Byte_any (u8 (gi lo j)) ⟨#[45, 93, 94]⟩ wr (by decide))
      have HC2 : Hid (∀ w2, Calls Tryz.prog 59 #[.int .i64 ((u8 (gi hi j)).toNat : Int), .string ⟨#[45, 93, 94]⟩] w2 (TextIs (escB (bl ⟨#[45, 93, 94]⟩) (u8 (gi hi j))) w2)) := fun w2 => l2Byte_any (u8 (gi hi j)) ⟨#[45, 93, 94]⟩ w2 (by decide)
      rw [e1] at HC1
      rw [e2] at HC2
      clear e1 e2
      generalize gi lo j = y at *
      generalize gi hi j = z at *
      go_wp2_with fail
      refine HC1.out.mono ?_
      rintro e w2 ⟨s, rfl, hs, hb2⟩
      have hsz : s.size ≤ 3 := by rw [bl_size, hs]; exact (escB_len _ _).2
      have HS := Lib.hid hs
      have hb' : Below W0.heap.size W0 w2 := hb.trans (hb2.mono hb.size)
      replace k2 := cell_keep hb2 k2
      replace k3 := cell_keep hb2 k3
      replace hc := cell_keep hb2 hc
      replace hc' := cell_keep hb2 hc'
      have kl2 := cell_lt k2
      simp only at kl2
      clear hs hb hb2 HC1
      by_cases hg : y < z
      · have hg' : decide (y < z) = true := decide_eq_true hg
        have HNX2 : Hid (rangesT lo hi (j + 1) = rangesT lo hi j ++ (escB cO (u8 y) ++ 45 :: escB cO (u8 z))) := by show _ = _; rw [HNX.out, HRT.out, if_pos hg]
        clear HNX HRT
        go_wp2
        go_quiet (fail)
        have HB3 : Hid (∀ n, Below W0.heap.size W0 (w2.drewN n)) := fun n => below_drewN hb' n
        replace k2 : (w2.drewN nq).cell? _ = _ := k2
        replace k3 : (w2.drewN nq).cell? _ = _ := k3
        replace hc : (w2.drewN nq).cell? _ = _ := hc
        replace hc' : (w2.drewN nq).cell? _ = _ := hc'
        have kl3 : w.heap.size < (w2.drewN nq).heap.size := kl2
        have hbq := HB3.out nq
        generalize w2.drewN nq = w3 at *
        go_wp2_with fail
        refine (HC2.out w3).mono ?_
        rintro e w4 ⟨s2, rfl, hs2, hb4⟩
        have hsz2 : s2.size ≤ 3 := by rw [bl_size, hs2]; exact (escB_len _ _).2
        have HS2 := Lib.hid hs2
        have hb5 : Below W0.heap.size W0 w4 := hbq.trans (hb4.mono hbq.size)
        clear hs2 hb4 k2 k3 hc hc' HB3 hbq hb'
        go_wp2
        go_roundw
        case rel =>
          refine ⟨j + 1, x ++ s ++ ⟨#[45]⟩ ++ s2, by omega, by go_num, rfl, ?_, ?_, hb5⟩
          · show _ = _
            rw [bl_append, bl_append, bl_append, HXS.out, HS.out, HS2.out, HNX2.out]; simp [bl, cO]
          · rw [sz_append, sz_append, sz_append]
            have : (⟨#[45]⟩ : ByteArray).size = 1 := rfl
            omega
        case measure => simp [intOf]; omega
      · have hg' : decide (y < z) = false := decide_eq_false hg
        have HNX2 : Hid (rangesT lo hi (j + 1) = rangesT lo hi j ++ (escB cO (u8 y) ++ [])) := by show _ = _; rw [HNX.out, HRT.out, if_neg hg]
        clear HNX HRT
        go_wp2
        go_quiet (fail)
        have HB3 : Hid (∀ n, Below W0.heap.size W0 (w2.drewN n)) := fun n => below_drewN hb' n
        go_wp2
        go_roundw
        case rel =>
          refine ⟨j + 1, x ++ s, by omega, by go_num, rfl, ?_, ?_, HB3.out _⟩
          · show _ = _
            rw [bl_append, HXS.out, HS.out, HNX2.out]; simp [bl, cO]
          · rw [sz_append]; omega
        case measure => simp [intOf]; omega
    · have hlt' : ¬ (j : Int) < (lo.length : Int) := by omega
      obtain rfl : j = lo.length := by omega
      have hx3 : x.size ≤ 1000 := by omega
      have HB := Lib.hid (HBX.out.trans (hb.mono HBX.out.size))
      go_wp2
      go_ret
      exact ⟨_, rfl, by rw [bl_append, bl_append, HXS.out]; simp [classT, bl], HB.out⟩

set_option maxRecDepth 100000 in
set_option maxHeartbeats 4000000 in
theorem write3 (rs : List Ru) (t : ByteArray) (lo hi : List Int) (kids : List Pt) (mn mx : Int) (A B K : Option Addr) (ca cb kc B0 : Nat) (rank : Int) (w : World) (hn : NamesP rs) (hv : PtV w B0 lo hi kids A B K) (ho : OkP rs (.mk 3 t lo hi kids mn mx)) (hnd : nodesL kids + 1 ≤ 160) (r0 : 0 ≤ rank) (r3 : rank ≤ 3) : Calls Tryz.prog 29 #[.agg #[.int .i64 3, .string t, .slice A lo.length ca, .slice B hi.length cb, .slice K kids.length kc, .int .i64 mn, .int .i64 mx], .int .i64 rank] w (TextIs (wrapT rank (.mk 3 t lo hi kids mn mx)) w) := by
  have HBX : Hid (Below w.heap.size w (w.alloc (.cells #[.int .i64 3, .string t, .slice A lo.length ca, .slice B hi.length cb, .slice K kids.length kc, .int .i64 mn, .int .i64 mx] 38))) := below_box _
  have HV := Lib.hid (hv.keep HBX.out)
  have hlen := txt_len hn ((Pt.mk 3 t lo hi kids mn mx).ht) (.mk 3 t lo hi kids mn mx) (Nat.le_refl _) ho
  rw [nodes_mk] at hlen
  have HO := Lib.hid ho
  have OP : Hid (Own (w.alloc (.cells #[.int .i64 3, .string t, .slice A lo.length ca, .slice B hi.length cb, .slice K kids.length kc, .int .i64 mn, .int .i64 mx] 38)) w.heap.size 38 [.int .i64 3, .string t, .slice A lo.length ca, .slice B hi.length cb, .slice K kids.length kc, .int .i64 mn, .int .i64 mx]) := Own.new w 38 #[.int .i64 3, .string t, .slice A lo.length ca, .slice B hi.length cb, .slice K kids.length kc, .int .i64 mn, .int .i64 mx]
  clear hv ho
  rw [wrap_no (show ¬ ownR 3 < rank by unfold ownR; simp; omega), txt_3]
  have nr : ¬ (3 : Int) < rank := by omega
  go_enter Tryz.func29, Tryz.ntmps29
  go_wp2
  go_ret
  exact ⟨_, rfl, rfl, HBX.out⟩

end Go.Proofs.YtadfjdgjlgpncaaGreatDoor
