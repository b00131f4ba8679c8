/- The specification's l31Write, JsonOk, JsonWrite (written by tools/json/gen_j7.py). -/
import Derived.Test.YtkhcappjhefkjaaGreatDoorJ6
import Derived.Test.YtkhcappjhefkjaaGreatDoorW3
namespace Go.Proofs.YtkhcappjhefkjaaGreatDoor
open Go.RowKit
set_option linter.unusedVariables false

/-- l31Write, of values that are ok and at most so high. -/
def WrP (n : Nat) : Prop := ∀ (k : Int) (f : Bool) (t : ByteArray) (ns : List ByteArray) (kids : List Js) (A K : Option Addr) (ca kc B0 : Nat) (w : World), htJ kids + 1 ≤ n → JsV w B0 ns kids A K → JokP (.mk k f t ns kids) → nodesJ kids + 1 ≤ 40 →
  Calls Tryz.prog 67 #[.agg #[.int .i64 k, .bool f, .string t, .slice A ns.length ca, .slice K kids.length kc]] w (TextIs (jtx (.mk k f t ns kids)) w)

set_option maxRecDepth 100000 in
set_option maxHeartbeats 1000000 in
theorem write1 (f : Bool) (t : ByteArray) (ns : List ByteArray) (kids : List Js) (A K : Option Addr) (ca kc : Nat) (w : World) (ht : t.size ≤ 1048576) : Calls Tryz.prog 67 #[.agg #[.int .i64 1, .bool f, .string t, .slice A ns.length ca, .slice K kids.length kc]] w (TextIs (jtx (.mk 1 f t ns kids)) w) := by
  have HJT : Hid (jtx (.mk 1 f t ns kids) = nullT) := by show _ = _; rw [jtx_mk]; simp
  rw [HJT.out]
  clear HJT
  go_enter Tryz.func67, Tryz.ntmps67
  go_wp2
  go_ret
  exact ⟨_, rfl, by simp [bl, quo, nullT, trueT, falseT], below_box _⟩

set_option maxRecDepth 100000 in
set_option maxHeartbeats 1000000 in
theorem write2 (f : Bool) (t : ByteArray) (ns : List ByteArray) (kids : List Js) (A K : Option Addr) (ca kc : Nat) (w : World) (ht : t.size ≤ 1048576) : Calls Tryz.prog 67 #[.agg #[.int .i64 2, .bool f, .string t, .slice A ns.length ca, .slice K kids.length kc]] w (TextIs (jtx (.mk 2 f t ns kids)) w) := by
  have HJT : Hid (jtx (.mk 2 f t ns kids) = if f = true then trueT else falseT) := by show _ = _; rw [jtx_mk]; simp
  rw [HJT.out]
  clear HJT
  cases f
  · go_enter Tryz.func67, Tryz.ntmps67
    go_wp2
    go_ret
    exact ⟨_, rfl, by simp [bl, falseT], below_box _⟩
  go_enter Tryz.func67, Tryz.ntmps67
  go_wp2
  go_ret
  exact ⟨_, rfl, by simp [bl, quo, nullT, trueT, falseT], below_box _⟩

set_option maxRecDepth 100000 in
set_option maxHeartbeats 1000000 in
theorem write3 (f : Bool) (t : ByteArray) (ns : List ByteArray) (kids : List Js) (A K : Option Addr) (ca kc : Nat) (w : World) (ht : t.size ≤ 1048576) : Calls Tryz.prog 67 #[.agg #[.int .i64 3, .bool f, .string t, .slice A ns.length ca, .slice K kids.length kc]] w (TextIs (jtx (.mk 3 f t ns kids)) w) := by
  have HJT : Hid (jtx (.mk 3 f t ns kids) = bl t) := by show _ = _; rw [jtx_mk]; simp
  rw [HJT.out]
  clear HJT
  go_enter Tryz.func67, Tryz.ntmps67
  go_wp2
  go_ret
  exact ⟨_, rfl, by simp [bl, quo, nullT, trueT, falseT], below_box _⟩

set_option maxRecDepth 100000 in
set_option maxHeartbeats 1000000 in
theorem write4 (f : Bool) (t : ByteArray) (ns : List ByteArray) (kids : List Js) (A K : Option Addr) (ca kc : Nat) (w : World) (ht : t.size ≤ 1048576) : Calls Tryz.prog 67 #[.agg #[.int .i64 4, .bool f, .string t, .slice A ns.length ca, .slice K kids.length kc]] w (TextIs (jtx (.mk 4 f t ns kids)) w) := by
  have HJT : Hid (jtx (.mk 4 f t ns kids) = quo (bl t)) := by show _ = _; rw [jtx_mk]; simp
  rw [HJT.out]
  clear HJT
  go_enter Tryz.func67, Tryz.ntmps67
  go_wp2
  go_ret
  exact ⟨_, rfl, by simp [bl, quo, nullT, trueT, falseT], below_box _⟩

set_option maxRecDepth 100000 in
set_option maxHeartbeats 4000000 in
theorem write5 {n : Nat} (IH : WrP n) (f : Bool) (t : ByteArray) (ns : List ByteArray) (kids : List Js) (A K : Option Addr) (ca kc B0 : Nat) (w : World) (hh : htJ kids + 1 ≤ n + 1) (hv : JsV w B0 ns kids A K) (ho : JokP (.mk 5 f t ns kids)) (hnd : nodesJ kids + 1 ≤ 40) :
    Calls Tryz.prog 67 #[.agg #[.int .i64 5, .bool f, .string t, .slice A ns.length ca, .slice K kids.length kc]] w (TextIs (jtx (.mk 5 f t ns kids)) w) := by
  have HI := Lib.hid IH
  have HH := Lib.hid hh
  have HV := Lib.hid hv
  have HBX : Hid (Below w.heap.size w (w.alloc (.cells #[.int .i64 5, .bool f, .string t, .slice A ns.length ca, .slice K kids.length kc] 42))) := below_box _
  have OB : Hid (Own (w.alloc (.cells #[.int .i64 5, .bool f, .string t, .slice A ns.length ca, .slice K kids.length kc] 42)) w.heap.size 42 [.int .i64 5, .bool f, .string t, .slice A ns.length ca, .slice K kids.length kc]) := Own.new w 42 #[.int .i64 5, .bool f, .string t, .slice A ns.length ca, .slice K kids.length kc]
  have HOK := Lib.hid ho.kids
  have HNS := Lib.hid (one_names ho.one)
  
  have hkl : kids.length ≤ 40 := by have := nodesJ_len kids; omega
  have HSZ : Hid (∀ j, (kidsTo false ns kids j).length ≤ 1600) := fun j => by
    have h1 := jtx_part (j := j) (form := false) (ns := ns) (kids := kids)
    have h2 := kidsT_len false ns HNS.out kids 0 (fun p hp => jtx_len _ p (Nat.le_refl _) (HOK.out p hp))
    omega
  have HJT : Hid (jtx (.mk 5 f t ns kids) = 91 :: (kidsTo false ns kids kids.length ++ [93])) := by
    show _ = _
    rw [jtx_mk, kidsTo_all]; simp
  rw [HJT.out]
  clear IH hh hv ho HJT
  go_enter Tryz.func67, Tryz.ntmps67
  go_wp2
  generalize w.alloc (.cells #[.int .i64 5, .bool f, .string t, .slice A ns.length ca, .slice K kids.length kc] 42) = W0 at *
  go_loopw [3, 4] (fun s i wr => ∃ (j : Nat) (x : ByteArray), j ≤ kids.length ∧ i = .int .i64 j ∧ s = .string x ∧ Hid (bl x = kidsTo false ns kids j) ∧ Below W0.heap.size W0 wr) (fun _ i _ => kids.length - (intOf i).toNat)
  case atStart => exact ⟨0, ⟨#[]⟩, Nat.zero_le _, rfl, rfl, by show _ = _; rw [kidsTo_zero]; rfl, Below.refl _ _⟩
  case round =>
    obtain ⟨j, x, hj, rfl, rfl, HXS, hb⟩ := hrel
    have hxz : x.size ≤ 1600 := by rw [bl_size, HXS.out]; exact HSZ.out j
    have OBR := OB.out.keep hb
    have k0 : wr.cell? ⟨w.heap.size, 0, none⟩ = some (.int .i64 5) := by rw [OBR.cell]; rfl
    have k3 : wr.cell? ⟨w.heap.size, 3, none⟩ = some (.slice A ns.length ca) := by rw [OBR.cell]; rfl
    have k4 : wr.cell? ⟨w.heap.size, 4, none⟩ = some (.slice K kids.length kc) := by rw [OBR.cell]; rfl
    have kl := cell_lt k4
    simp only at kl
    clear OBR
    by_cases hlt : j < kids.length
    · have hlt' : (j : Int) < (kids.length : Int) := by omega
      obtain ⟨b, off, rfl, hp⟩ := (HV.out.k.keep (HBX.out.trans (hb.mono HBX.out.size))).at_ hlt
      have HNX := Lib.hid (kidsTo_succ false ns kids hlt)

      have hok := HOK.out _ (List.getElem_mem hlt)
      have hht := htJ_mem (List.getElem_mem hlt)
      have hno := nodesJ_mem (List.getElem_mem hlt)
      have hlen := jtx_len _ _ (Nat.le_refl _) hok
      generalize kids[j] = p at *
      have HLEN : Hid ((jtx p).length ≤ 1600) := by show _ ≤ _; omega
      obtain ⟨pk, pf, pt, pns, pkids⟩ := p
      rw [htJ_mk] at hht
      rw [nodesJ_mk] at hno
      obtain ⟨PA, PK, pa, pc, hc, hv⟩ := hp.open_
      obtain ⟨c0, c1, c2, c3, c4⟩ := hc
      have HC := Lib.hid (HI.out pk pf pt pns pkids PA PK pa pc B0 wr (by have := HH.out; omega) hv hok (by omega))
      clear hp hv hok hht hno hlen
      by_cases hj0 : 0 < j
      · have hj0' : (0 : Int) < (j : Int) := by omega
        go_wp2_with fail
        refine HC.out.mono ?_
        rintro e w2 ⟨s, rfl, hs, hb2⟩
        have hsz : s.size ≤ 1600 := by rw [bl_size, hs]; exact HLEN.out
        have HS := Lib.hid hs
        have hb' : Below W0.heap.size W0 w2 := hb.trans (hb2.mono hb.size)
        clear hs hb2 HC hb
        go_wp2
        go_roundw
        case rel =>
          refine ⟨j + 1, _, by omega, by go_num, rfl, ?_, hb'⟩
          show _ = _
          rw [HNX.out]
          simp only [bl_append, HXS.out, HS.out, List.append_assoc, List.cons_append, List.nil_append]
          simp [hj0, bl]
        case measure => simp [intOf]; omega
      · have hj0' : ¬ (0 : Int) < (j : Int) := by omega
        have hj1 : j = 0 := by omega
        have HJ1 := Lib.hid hj1
        clear hj1
        go_wp2_with fail
        refine HC.out.mono ?_
        rintro e w2 ⟨s, rfl, hs, hb2⟩
        have hsz : s.size ≤ 1600 := by rw [bl_size, hs]; exact HLEN.out
        have HS := Lib.hid hs
        have hb' : Below W0.heap.size W0 w2 := hb.trans (hb2.mono hb.size)
        clear hs hb2 HC hb
        go_wp2
        go_roundw
        case rel =>
          refine ⟨j + 1, _, by omega, by go_num, rfl, ?_, hb'⟩
          show _ = _
          rw [HNX.out]
          simp only [bl_append, HXS.out, HS.out, List.append_assoc, List.cons_append, List.nil_append]
          simp [HJ1.out, bl]
        case measure => simp [intOf]; omega
    · have hlt' : ¬ (j : Int) < (kids.length : Int) := by omega
      obtain rfl : j = kids.length := by omega
      have HB := Lib.hid (HBX.out.trans (hb.mono HBX.out.size))
      clear hb
      go_wp2
      go_ret
      exact ⟨_, rfl, by simp only [bl_append, HXS.out]; rfl, HB.out⟩

set_option maxRecDepth 100000 in
set_option maxHeartbeats 4000000 in
theorem write6 {n : Nat} (IH : WrP n) (f : Bool) (t : ByteArray) (ns : List ByteArray) (kids : List Js) (A K : Option Addr) (ca kc B0 : Nat) (w : World) (hh : htJ kids + 1 ≤ n + 1) (hv : JsV w B0 ns kids A K) (ho : JokP (.mk 6 f t ns kids)) (hnd : nodesJ kids + 1 ≤ 40) :
    Calls Tryz.prog 67 #[.agg #[.int .i64 6, .bool f, .string t, .slice A ns.length ca, .slice K kids.length kc]] w (TextIs (jtx (.mk 6 f t ns kids)) w) := by
  have HI := Lib.hid IH
  have HH := Lib.hid hh
  have HV := Lib.hid hv
  have HBX : Hid (Below w.heap.size w (w.alloc (.cells #[.int .i64 6, .bool f, .string t, .slice A ns.length ca, .slice K kids.length kc] 42))) := below_box _
  have OB : Hid (Own (w.alloc (.cells #[.int .i64 6, .bool f, .string t, .slice A ns.length ca, .slice K kids.length kc] 42)) w.heap.size 42 [.int .i64 6, .bool f, .string t, .slice A ns.length ca, .slice K kids.length kc]) := Own.new w 42 #[.int .i64 6, .bool f, .string t, .slice A ns.length ca, .slice K kids.length kc]
  have HOK := Lib.hid ho.kids
  have HNS := Lib.hid (one_names ho.one)
  have hnl : kids.length ≤ ns.length := by rcases ho.one with h | h | h | h | h | h <;> omega
  have hkl : kids.length ≤ 40 := by have := nodesJ_len kids; omega
  have HSZ : Hid (∀ j, (kidsTo true ns kids j).length ≤ 1600) := fun j => by
    have h1 := jtx_part (j := j) (form := true) (ns := ns) (kids := kids)
    have h2 := kidsT_len true ns HNS.out kids 0 (fun p hp => jtx_len _ p (Nat.le_refl _) (HOK.out p hp))
    omega
  have HJT : Hid (jtx (.mk 6 f t ns kids) = 123 :: (kidsTo true ns kids kids.length ++ [125])) := by
    show _ = _
    rw [jtx_mk, kidsTo_all]; simp
  rw [HJT.out]
  clear IH hh hv ho HJT
  go_enter Tryz.func67, Tryz.ntmps67
  go_wp2
  generalize w.alloc (.cells #[.int .i64 6, .bool f, .string t, .slice A ns.length ca, .slice K kids.length kc] 42) = W0 at *
  go_loopw [3, 4] (fun s i wr => ∃ (j : Nat) (x : ByteArray), j ≤ kids.length ∧ i = .int .i64 j ∧ s = .string x ∧ Hid (bl x = kidsTo true ns kids j) ∧ Below W0.heap.size W0 wr) (fun _ i _ => kids.length - (intOf i).toNat)
  case atStart => exact ⟨0, ⟨#[]⟩, Nat.zero_le _, rfl, rfl, by show _ = _; rw [kidsTo_zero]; rfl, Below.refl _ _⟩
  case round =>
    obtain ⟨j, x, hj, rfl, rfl, HXS, hb⟩ := hrel
    have hxz : x.size ≤ 1600 := by rw [bl_size, HXS.out]; exact HSZ.out j
    have OBR := OB.out.keep hb
    have k0 : wr.cell? ⟨w.heap.size, 0, none⟩ = some (.int .i64 6) := by rw [OBR.cell]; rfl
    have k3 : wr.cell? ⟨w.heap.size, 3, none⟩ = some (.slice A ns.length ca) := by rw [OBR.cell]; rfl
    have k4 : wr.cell? ⟨w.heap.size, 4, none⟩ = some (.slice K kids.length kc) := by rw [OBR.cell]; rfl
    have kl := cell_lt k4
    simp only at kl
    clear OBR
    by_cases hlt : j < kids.length
    · have hlt' : (j : Int) < (kids.length : Int) := by omega
      obtain ⟨b, off, rfl, hp⟩ := (HV.out.k.keep (HBX.out.trans (hb.mono HBX.out.size))).at_ hlt
      have HNX := Lib.hid (kidsTo_succ true ns kids hlt)
      have hjn : j < ns.length := by omega
      have hjn' : (j : Int) < (ns.length : Int) := by omega
      obtain ⟨b', off', rfl, hcn⟩ := (HV.out.a.keep (HBX.out.trans (hb.mono HBX.out.size))).str hjn
      have HNM : Hid (ns[j].size ≤ 8) := HNS.out j hjn
      have hgd : ns.getD j ByteArray.empty = ns[j] := by rw [List.getD_eq_getElem?_getD, List.getElem?_eq_getElem hjn]; rfl
      rw [hgd] at HNX
      generalize ns[j] = nm at *
      clear hgd
      have hok := HOK.out _ (List.getElem_mem hlt)
      have hht := htJ_mem (List.getElem_mem hlt)
      have hno := nodesJ_mem (List.getElem_mem hlt)
      have hlen := jtx_len _ _ (Nat.le_refl _) hok
      generalize kids[j] = p at *
      have HLEN : Hid ((jtx p).length ≤ 1600) := by show _ ≤ _; omega
      obtain ⟨pk, pf, pt, pns, pkids⟩ := p
      rw [htJ_mk] at hht
      rw [nodesJ_mk] at hno
      obtain ⟨PA, PK, pa, pc, hc, hv⟩ := hp.open_
      obtain ⟨c0, c1, c2, c3, c4⟩ := hc
      have HC := Lib.hid (HI.out pk pf pt pns pkids PA PK pa pc B0 wr (by have := HH.out; omega) hv hok (by omega))
      clear hp hv hok hht hno hlen
      by_cases hj0 : 0 < j
      · have hj0' : (0 : Int) < (j : Int) := by omega
        have hnm : nm.size ≤ 8 := HNM.out
        go_wp2_with fail
        refine HC.out.mono ?_
        rintro e w2 ⟨s, rfl, hs, hb2⟩
        have hsz : s.size ≤ 1600 := by rw [bl_size, hs]; exact HLEN.out
        have HS := Lib.hid hs
        have hb' : Below W0.heap.size W0 w2 := hb.trans (hb2.mono hb.size)
        clear hs hb2 HC hb
        go_wp2
        go_roundw
        case rel =>
          refine ⟨j + 1, _, by omega, by go_num, rfl, ?_, hb'⟩
          show _ = _
          rw [HNX.out]
          simp only [bl_append, HXS.out, HS.out, keyT, List.append_assoc, List.cons_append, List.nil_append]
          simp [hj0, bl]
        case measure => simp [intOf]; omega
      · have hj0' : ¬ (0 : Int) < (j : Int) := by omega
        have hj1 : j = 0 := by omega
        have HJ1 := Lib.hid hj1
        clear hj1
        have hnm : nm.size ≤ 8 := HNM.out
        go_wp2_with fail
        refine HC.out.mono ?_
        rintro e w2 ⟨s, rfl, hs, hb2⟩
        have hsz : s.size ≤ 1600 := by rw [bl_size, hs]; exact HLEN.out
        have HS := Lib.hid hs
        have hb' : Below W0.heap.size W0 w2 := hb.trans (hb2.mono hb.size)
        clear hs hb2 HC hb
        go_wp2
        go_roundw
        case rel =>
          refine ⟨j + 1, _, by omega, by go_num, rfl, ?_, hb'⟩
          show _ = _
          rw [HNX.out]
          simp only [bl_append, HXS.out, HS.out, keyT, List.append_assoc, List.cons_append, List.nil_append]
          simp [HJ1.out, bl]
        case measure => simp [intOf]; omega
    · have hlt' : ¬ (j : Int) < (kids.length : Int) := by omega
      obtain rfl : j = kids.length := by omega
      have HB := Lib.hid (HBX.out.trans (hb.mono HBX.out.size))
      clear hb
      go_wp2
      go_ret
      exact ⟨_, rfl, by simp only [bl_append, HXS.out]; rfl, HB.out⟩

theorem writeS {n : Nat} (IH : WrP n) : WrP (n + 1) := by
  intro k f t ns kids A K ca kc B0 w hh hv ho hnd
  have ht : t.size ≤ 1048576 := by
    rcases ho.one with h | h | h | h | h | h
    · omega
    · omega
    · have := num_len h.2.2.1; rw [← bl_size] at this; omega
    · have := h.2.2.1.1; omega
    · omega
    · omega
  have hone := ho.one
  rcases hone with ⟨rfl, _⟩ | ⟨rfl, _⟩ | ⟨rfl, _⟩ | ⟨rfl, _⟩ | ⟨rfl, _⟩ | ⟨rfl, _⟩
  · exact write1 f t ns kids A K ca kc w ht
  · exact write2 f t ns kids A K ca kc w ht
  · exact write3 f t ns kids A K ca kc w ht
  · exact write4 f t ns kids A K ca kc w ht
  · exact write5 IH f t ns kids A K ca kc B0 w hh hv ho hnd
  · exact write6 IH f t ns kids A K ca kc B0 w hh hv ho hnd
theorem write_all : ∀ n, WrP n
  | 0 => by intro k f t ns kids A K ca kc B0 w hh; omega
  | n + 1 => writeS (write_all n)

set_option maxRecDepth 100000 in
set_option maxHeartbeats 4000000 in
theorem specOk_any (k : Int) (f : Bool) (t : ByteArray) (ns : List ByteArray) (kids : List Js) (A K : Option Addr) (ca kc B0 : Nat) (w : World) (hv : JsV w B0 ns kids A K) (hl : LimJ 1048576 (.mk k f t ns kids)) :
    Calls Tryz.prog 31 #[.agg #[.int .i64 k, .bool f, .string t, .slice A ns.length ca, .slice K kids.length kc]] w (BoolPost (JsonP (.mk k f t ns kids)) w) := by
  obtain ⟨W0, hW0⟩ : ∃ W0, w.alloc (.cells #[.int .i64 k, .bool f, .string t, .slice A ns.length ca, .slice K kids.length kc] 42) = W0 := ⟨_, rfl⟩
  have HBX : Hid (Below w.heap.size w W0) := by rw [← hW0]; exact below_box _
  have OB : Hid (Own W0 w.heap.size 42 [.int .i64 k, .bool f, .string t, .slice A ns.length ca, .slice K kids.length kc]) := by rw [← hW0]; exact Own.new w 42 #[.int .i64 k, .bool f, .string t, .slice A ns.length ca, .slice K kids.length kc]
  have HV := Lib.hid (hv.keep HBX.out)
  have HC1 := Lib.hid (deep_all 5 (by omega) k f t ns kids A K ca kc B0 W0 HV.out hl)
  obtain ⟨Q, hQ⟩ : ∃ Q : Prop, Q ↔ JsonP (.mk k f t ns kids) := ⟨_, Iff.rfl⟩
  rw [show JsonP (.mk k f t ns kids) = Q from (propext hQ).symm]
  have HQ : Hid (Q ↔ htJ kids + 1 ≤ 5 ∧ JokP (.mk k f t ns kids) ∧ nodesJ kids + 1 ≤ 40 ∧ (jtx (.mk k f t ns kids)).length ≤ 300) := hQ.trans (by unfold JsonP; rw [htJ_mk, nodesJ_mk])
  have HW := Lib.hid hW0
  clear hv hl hQ hW0
  go_enter Tryz.func31, Tryz.ntmps31
  go_wp2_with fail
  rw [HW.out]
  refine HC1.out.mono ?_
  rintro e w1 ⟨r, rfl, h1, hb1⟩
  have H1 := Lib.hid h1
  have HB1 := Lib.hid (HBX.out.trans (hb1.mono HBX.out.size))
  have O1 := OB.out.keep hb1
  have k0 : w1.cell? ⟨w.heap.size, 0, none⟩ = some (.int .i64 k) := by rw [O1.cell]; rfl
  have k1 : w1.cell? ⟨w.heap.size, 1, none⟩ = some (.bool f) := by rw [O1.cell]; rfl
  have k2 : w1.cell? ⟨w.heap.size, 2, none⟩ = some (.string t) := by rw [O1.cell]; rfl
  have k3 : w1.cell? ⟨w.heap.size, 3, none⟩ = some (.slice A ns.length ca) := by rw [O1.cell]; rfl
  have k4 : w1.cell? ⟨w.heap.size, 4, none⟩ = some (.slice K kids.length kc) := by rw [O1.cell]; rfl
  have kl := O1.lt
  have HO1 := Lib.hid O1
  have HV1 := Lib.hid (HV.out.keep hb1)
  clear h1 hb1 HC1 HW HBX OB HV O1
  cases r
  · have HF : Hid (¬ Q) := fun h => by
      have q := HQ.out.1 h
      have := H1.out.2 ⟨q.1, q.2.1, nar_of_nodes _ _ (Nat.le_refl _) (by rw [nodesJ_mk]; exact q.2.2.1)⟩
      cases this
    have hb := HB1.out
    go_wp2
    go_ret
    exact ⟨false, rfl, iffF HF.out, hb⟩
  · have HD : Hid (htJ kids + 1 ≤ 5 ∧ JokP (.mk k f t ns kids) ∧ NarJ (.mk k f t ns kids)) := by first | exact H1.out.1 rfl | exact H1.out.1 trivial
    have HC2 : Hid (Calls Tryz.prog 66 #[.agg #[.int .i64 k, .bool f, .string t, .slice A ns.length ca, .slice K kids.length kc]] w1 (fun e w' => e = .returned (.int .i64 (nodesJ kids + 1 : Nat)) ∧ Below w1.heap.size w1 w')) := by
      cases HD.out.2.2 with
      | mk _ _ _ _ _ q1 q2 => exact size_all 8 (by omega) k f t ns kids A K ca kc B0 w1 (by have := HD.out.1; omega) HV1.out.k q1 q2
    clear H1
    go_wp2_with fail
    refine HC2.out.mono ?_
    rintro e w2 ⟨rfl, hb2⟩
    have HB2 := Lib.hid (HB1.out.trans (hb2.mono HB1.out.size))
    have O2 := HO1.out.keep hb2
    have m0 : w2.cell? ⟨w.heap.size, 0, none⟩ = some (.int .i64 k) := by rw [O2.cell]; rfl
    have m1 : w2.cell? ⟨w.heap.size, 1, none⟩ = some (.bool f) := by rw [O2.cell]; rfl
    have m2 : w2.cell? ⟨w.heap.size, 2, none⟩ = some (.string t) := by rw [O2.cell]; rfl
    have m3 : w2.cell? ⟨w.heap.size, 3, none⟩ = some (.slice A ns.length ca) := by rw [O2.cell]; rfl
    have m4 : w2.cell? ⟨w.heap.size, 4, none⟩ = some (.slice K kids.length kc) := by rw [O2.cell]; rfl
    have ml := O2.lt
    have HV2 := Lib.hid (HV1.out.keep hb2)
    clear hb2 HC2 HV1 HO1 O2 k0 k1 k2 k3 k4 kl
    by_cases g : nodesJ kids + 1 ≤ 40
    · have g' : ((nodesJ kids + 1 : Nat) : Int) ≤ 40 := by omega
      have HG := Lib.hid g
      have HC3 := Lib.hid (write_all (htJ kids + 1) k f t ns kids A K ca kc B0 w2 (Nat.le_refl _) HV2.out HD.out.2.1 g)
      have hlen : (jtx (.mk k f t ns kids)).length ≤ 1600 := by
        have := jtx_len _ _ (Nat.le_refl _) HD.out.2.1
        rw [nodesJ_mk] at this
        omega
      have HLEN := Lib.hid hlen
      clear g hlen
      generalize ((nodesJ kids + 1 : Nat) : Int) = z at *
      go_wp2_with fail
      refine HC3.out.mono ?_
      rintro e w3 ⟨s, rfl, hs, hb3⟩
      have hb := HB2.out.trans (hb3.mono HB2.out.size)
      have HS : Hid (s.size = (jtx (.mk k f t ns kids)).length) := by show _ = _; rw [bl_size, hs]
      have hs16 : s.size ≤ 1600 := by rw [HS.out]; exact HLEN.out
      clear hs hb3 HC3 m0 m1 m2 m3 m4
      go_wp2
      go_ret
      refine ⟨_, rfl, ?_, hb⟩
      rw [decide_eq_true_iff, HQ.out, ← HS.out]
      exact ⟨fun h => ⟨HD.out.1, HD.out.2.1, HG.out, by omega⟩, fun h => by have := h.2.2.2; omega⟩
    · have g' : ¬ ((nodesJ kids + 1 : Nat) : Int) ≤ 40 := by omega
      have HF : Hid (¬ Q) := fun h => g (HQ.out.1 h).2.2.1
      have hb := HB2.out
      clear g
      generalize ((nodesJ kids + 1 : Nat) : Int) = z at *
      go_wp2
      go_ret
      exact ⟨false, rfl, iffF HF.out, hb⟩

/-- A text of what is ok, else nothing. -/
def WritePost (p : Js) (w : World) (e : Ending) (w' : World) : Prop := ∃ s : ByteArray, e = .returned (.string s) ∧ (JsonP p → bl s = jtx p) ∧ (¬ JsonP p → bl s = []) ∧ Below w.heap.size w w'

end Go.Proofs.YtkhcappjhefkjaaGreatDoor

