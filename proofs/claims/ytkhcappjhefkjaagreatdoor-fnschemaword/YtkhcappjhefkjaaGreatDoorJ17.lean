/- impl.yieldKids with names (written by tools/json/gen_j16.py). -/
import Derived.Test.YtkhcappjhefkjaaGreatDoorJ16
namespace Go.Proofs.YtkhcappjhefkjaaGreatDoor
open Go.RowKit Go.Shelf
set_option linter.unusedVariables false
attribute [local go_sem] Oper.semAt_some

set_option maxRecDepth 100000 in
set_option maxHeartbeats 4000000 in
theorem yieldKidsF {l N bb n : Nat} {w0 : World} {J Jx : List Sub → World → Prop} (hY : YS l N bb w0 J Jx) (IH : YvP l N bb w0 J Jx n) (ns : List ByteArray) (A : Option Addr) (ca : Nat) (kids : List Js) (K : Option Addr) (kc B0 m : Nat) (pre : List Sub) (W : World) (hA : Row w0 A (strs ns)) (hnl : kids.length ≤ ns.length) (hns : ns.length ≤ 1048576) (hn8 : ∀ i (h : i < ns.length), ns[i].size ≤ 8) (hh : htJ kids ≤ n) (hk : Jss w0 B0 K kids) (hm : kids.length ≤ 1048576) (hok : ∀ p ∈ kids, JokP p) (hl : ∀ p ∈ kids, LimJ 1048576 p)
    (hb : Below w0.heap.size w0 W) (hJ : J pre W) (hN : pre.length + (kidsP true ns 0 (kids.map parts)).length ≤ N) :
    CallsIn Fence.wide m Tryz.prog 148 #[.slice A ns.length ca, .slice K kids.length kc, .func (.yield l) #[] #[]] W (YPost w0 J Jx pre ((kidsP true ns 0 (kids.map parts)).map cl)) := by
  have HI := Lib.hid IH
  have HK := Lib.hid hk
  have HOK := Lib.hid hok
  have HL := Lib.hid hl
  have HH := Lib.hid hh
  have HN := Lib.hid hN
  have HB := Lib.hid hb
  have HJ := Lib.hid hJ
  clear IH hk hok hl hh hN hb hJ
  have wfn : ∀ k, Fence.wide.fn k := fun _ => trivial
  have wdp : Fence.wide.depth.isSome = false := rfl
  refine callsIn_of_wp Tryz.func148 rfl trivial ?_ rfl
  simp only [Tryz.ntmps148, List.size_toArray, List.length_cons, List.length_nil, Nat.reduceAdd, Nat.reduceSub, Array.replicate_succ, Array.replicate_zero, List.push_toArray, List.append_toArray, List.nil_append, List.cons_append]
  gi_wp2
  gi_loopw [11] (fun i wr => ∃ j : Nat, j ≤ kids.length ∧ i = .int .i64 j ∧ Hid (J (pre ++ (kidsPTo true ns kids j).map cl) wr) ∧ Hid (Below w0.heap.size w0 wr)) (fun i _ => kids.length - (intOf i).toNat)
  case atStart => exact ⟨0, Nat.zero_le _, rfl, by show J _ _; rw [kidsPTo_zero]; simpa using HJ.out, HB⟩
  case round =>
    obtain ⟨j, hj, rfl, HJR, HBR⟩ := hrel
    by_cases hlt : j < kids.length
    · have hlt' : (j : Int) < (kids.length : Int) := by omega
      obtain ⟨b, off, rfl, hp0⟩ := HK.out.at_ hlt
      have hp := hp0.keep HBR.out
      have HNX := Lib.hid (kidsPTo_succ true ns kids hlt)
      have hjn : j < ns.length := by omega
      have hjn' : (j : Int) < (ns.length : Int) := by omega
      have hn0 : (0 : Int) < (ns.length : Int) := by omega
      obtain ⟨b', off', rfl, hcn0⟩ := hA.str hjn
      have HCN : Hid (∀ X, Below w0.heap.size w0 X → X.cell? ⟨b', off' + j, none⟩ = some (.string ns[j])) := fun X h => cell_keep h hcn0
      have HNM : Hid (ns[j].size ≤ 8) := hn8 j hjn
      have hgd : ns.getD j ByteArray.empty = ns[j] := by rw [List.getD_eq_getElem?_getD, List.getElem?_eq_getElem hjn]; rfl
      rw [hgd] at HNX
      generalize ns[j] = nm at *
      clear hgd hcn0
      have HPOK := Lib.hid (HOK.out _ (List.getElem_mem hlt))
      have HPL := Lib.hid (HL.out _ (List.getElem_mem hlt))
      have hht := htJ_mem (List.getElem_mem hlt)
      generalize kids[j] = p at *
      obtain ⟨pk, pf, pt, pns, pkids⟩ := p
      rw [htJ_mk] at hht
      have HHT : Hid (htJ pkids + 1 ≤ n) := by have := HH.out; show _ ≤ _; omega
      obtain ⟨PA, PK, pa, pc, hc, hv⟩ := hp.open_
      obtain ⟨PA0, PK0, pa0, pc0, hc0, hv0⟩ := hp0.open_
      have c0 := hc.c0
      have c1 := hc.c1
      have c2 := hc.c2
      have c3 := hc.c3
      have c4 := hc.c4
      have HPV : Hid (JsV w0 B0 pns pkids PA PK) := by
        have e3 := (cell_keep HBR.out hc0.c3).symm.trans c3
        have e4 := (cell_keep HBR.out hc0.c4).symm.trans c4
        injection e3 with e3; injection e3 with e3 _ _
        injection e4 with e4; injection e4 with e4 _ _
        subst e3 e4
        exact hv0
      have HBB : Hid (bb < wr.heap.size) := hY.jb _ _ HJR.out
      obtain ⟨p0, hp0e⟩ : ∃ p0, pre ++ (kidsPTo true ns kids j).map cl = p0 := ⟨_, rfl⟩
      rw [hp0e] at HJR
      have HP0 := Lib.hid hp0e.symm
      obtain ⟨WB, hWB⟩ : ∃ WB, wr.alloc (.cells #[.int .i64 pk, .bool pf, .string pt, .slice PA pns.length pa, .slice PK pkids.length pc] 42) = WB := ⟨_, rfl⟩
      have HWB : Hid (J p0 WB ∧ Below w0.heap.size w0 WB) := by
        rw [← hWB]
        exact ⟨hY.j _ _ _ HJR.out (below_box _), HBR.out.trans ((below_box _).mono HBR.out.size)⟩
      have OWB : Hid (Own WB wr.heap.size 42 [.int .i64 pk, .bool pf, .string pt, .slice PA pns.length pa, .slice PK pkids.length pc]) := by
        rw [← hWB]; exact Own.new wr 42 #[.int .i64 pk, .bool pf, .string pt, .slice PA pns.length pa, .slice PK pkids.length pc]
      clear hp hp0 hc hc0 hv hv0 hht hp0e HJR
      by_cases hj0 : 0 < j
      · have hj0' : (0 : Int) < (j : Int) := by omega
        have HNX2 : Hid (kidsPTo true ns kids (j + 1) = kidsPTo true ns kids j ++ ([(⟨#[44]⟩ : ByteArray)] ++ [keyS nm] ++ parts (.mk pk pf pt pns pkids))) := by show _ = _; rw [HNX.out]; simp [hj0]
        have HALL : Hid ((kidsPTo true ns kids j ++ ([(⟨#[44]⟩ : ByteArray)] ++ [keyS nm] ++ parts (.mk pk pf pt pns pkids))) <+: (kidsP true ns 0 (kids.map parts))) := by show _ <+: _; rw [← HNX2.out]; exact kidsPTo_pre _ _ _ _
        have HFALSE : Hid (∀ (q : List ByteArray) W', q <+: ([(⟨#[44]⟩ : ByteArray)] ++ [keyS nm] ++ parts (.mk pk pf pt pns pkids)) → Jx (p0 ++ q.map cl) W' → YPost w0 J Jx pre ((kidsP true ns 0 (kids.map parts)).map cl) (.returned (.bool false)) W') := fun q W' hq hJ => by
          refine .inr ⟨rfl, (kidsPTo true ns kids j ++ q).map cl, ?_, by rw [HP0.out] at hJ; simpa only [List.map_append, List.append_assoc] using hJ⟩
          exact (List.IsPrefix.map cl ((List.prefix_append_right_inj _).2 hq)).trans (List.IsPrefix.map cl HALL.out)
        have HTRUE : Hid (∀ W', J (p0 ++ ([(⟨#[44]⟩ : ByteArray)] ++ [keyS nm] ++ parts (.mk pk pf pt pns pkids)).map cl) W' → J (pre ++ (kidsPTo true ns kids (j + 1)).map cl) W') := fun W' hJ => by
          rw [HNX2.out]; rw [HP0.out] at hJ; simpa only [List.map_append, List.append_assoc] using hJ
        have HLN : Hid (p0.length + ([(⟨#[44]⟩ : ByteArray)] ++ [keyS nm] ++ parts (.mk pk pf pt pns pkids)).length ≤ N) := by
          show _ ≤ _
          rw [HP0.out]
          have h1 := (List.IsPrefix.length_le HALL.out)
          simp only [List.length_append, List.length_map] at h1 ⊢
          have := HN.out
          omega
        (try simp only [List.length_append, List.length_cons, List.length_nil] at HLN)
        clear HNX HNX2 HALL

        gi_wp2_with fail
        obtain ⟨fnW1, tmW1, asW1, boW1, hyW1, hRW1⟩ := hY.y (m - 1) p0 (cl (⟨#[44]⟩ : ByteArray)) WB HWB.out.1 (by (try simp only [List.length_append, List.length_cons, List.length_nil]); have := HLN.out; omega)
        rw [cl_val (by decide)] at hyW1
        skip
        rw [hyW1, Oper.uponIn_round]
        refine ⟨fun h => by simp [wdp] at h, ?_⟩
        refine hRW1.mono ?_
        clear hRW1 hyW1
        rintro e W1 (⟨rfl, hJ, hb, hk⟩ | ⟨rfl, hJ⟩)
        rotate_left
        · have HF := Lib.hid (HFALSE.out [(⟨#[44]⟩ : ByteArray)] W1 ⟨[keyS nm] ++ parts (.mk pk pf pt pns pkids), by simp⟩ (by simpa only [List.map_cons, List.map_nil, List.map_append, List.append_assoc, List.cons_append, List.nil_append] using hJ))
          clear hJ
          gi_wp2
          all_goals go_ret
          all_goals exact HF.out
        have HW1 : Hid (J (p0 ++ [cl (⟨#[44]⟩ : ByteArray)]) W1 ∧ Below w0.heap.size w0 W1) := ⟨hJ, HWB.out.2.trans hb⟩
        have OW1 : Hid (Own W1 wr.heap.size 42 [.int .i64 pk, .bool pf, .string pt, .slice PA pns.length pa, .slice PK pkids.length pc]) := hk.own OWB.out (Nat.ne_of_gt HBB.out) (by decide)
        clear hJ hb hk
        skip
        skip
        have W1k0 : W1.cell? ⟨wr.heap.size, 0, none⟩ = some (.int .i64 pk) := by rw [OW1.out.cell]; rfl
        have W1k1 : W1.cell? ⟨wr.heap.size, 1, none⟩ = some (.bool pf) := by rw [OW1.out.cell]; rfl
        have W1k2 : W1.cell? ⟨wr.heap.size, 2, none⟩ = some (.string pt) := by rw [OW1.out.cell]; rfl
        have W1k3 : W1.cell? ⟨wr.heap.size, 3, none⟩ = some (.slice PA pns.length pa) := by rw [OW1.out.cell]; rfl
        have W1k4 : W1.cell? ⟨wr.heap.size, 4, none⟩ = some (.slice PK pkids.length pc) := by rw [OW1.out.cell]; rfl
        have W1l := OW1.out.lt

        have cn := HCN.out W1 HW1.out.2
        have cnl := cell_lt cn
        simp only at cnl
        have hnm8 : nm.size ≤ 8 := HNM.out
        gi_wp2_with fail
        obtain ⟨fnW2, tmW2, asW2, boW2, hyW2, hRW2⟩ := hY.y (m - 1) (p0 ++ [cl (⟨#[44]⟩ : ByteArray)]) (cl (keyS nm)) W1 HW1.out.1 (by (try simp only [List.length_append, List.length_cons, List.length_nil]); have := HLN.out; omega)
        rw [cl_val (by have := HNM.out; unfold keyS; rw [sz_append, sz_append]; have e1 : (⟨#[34]⟩ : ByteArray).size = 1 := rfl; have e2 : (⟨#[34, 58]⟩ : ByteArray).size = 2 := rfl; omega)] at hyW2
        unfold keyS at hyW2
        rw [hyW2, Oper.uponIn_round]
        refine ⟨fun h => by simp [wdp] at h, ?_⟩
        refine hRW2.mono ?_
        clear hRW2 hyW2
        rintro e W2 (⟨rfl, hJ, hb, hk⟩ | ⟨rfl, hJ⟩)
        rotate_left
        · have HF := Lib.hid (HFALSE.out [(⟨#[44]⟩ : ByteArray), keyS nm] W2 ⟨parts (.mk pk pf pt pns pkids), by simp⟩ (by simpa only [List.map_cons, List.map_nil, List.map_append, List.append_assoc, List.cons_append, List.nil_append] using hJ))
          clear hJ
          gi_wp2
          all_goals go_ret
          all_goals exact HF.out
        have HW2 : Hid (J ((p0 ++ [cl (⟨#[44]⟩ : ByteArray)]) ++ [cl (keyS nm)]) W2 ∧ Below w0.heap.size w0 W2) := ⟨hJ, HW1.out.2.trans hb⟩
        have OW2 : Hid (Own W2 wr.heap.size 42 [.int .i64 pk, .bool pf, .string pt, .slice PA pns.length pa, .slice PK pkids.length pc]) := hk.own OW1.out (Nat.ne_of_gt HBB.out) (by decide)
        clear hJ hb hk
        clear cn cnl hnm8
        clear W1k0 W1k1 W1k2 W1k3 W1k4 W1l
        have W2k0 : W2.cell? ⟨wr.heap.size, 0, none⟩ = some (.int .i64 pk) := by rw [OW2.out.cell]; rfl
        have W2k1 : W2.cell? ⟨wr.heap.size, 1, none⟩ = some (.bool pf) := by rw [OW2.out.cell]; rfl
        have W2k2 : W2.cell? ⟨wr.heap.size, 2, none⟩ = some (.string pt) := by rw [OW2.out.cell]; rfl
        have W2k3 : W2.cell? ⟨wr.heap.size, 3, none⟩ = some (.slice PA pns.length pa) := by rw [OW2.out.cell]; rfl
        have W2k4 : W2.cell? ⟨wr.heap.size, 4, none⟩ = some (.slice PK pkids.length pc) := by rw [OW2.out.cell]; rfl
        have W2l := OW2.out.lt

        have HC := Lib.hid (HI.out pk pf pt pns pkids PA PK pa pc B0 (m - 1) ((p0 ++ [cl (⟨#[44]⟩ : ByteArray)]) ++ [cl (keyS nm)]) W2 (by have := HHT.out; omega) HPV.out HPOK.out HPL.out HW2.out.2 HW2.out.1 (by (try simp only [List.length_append, List.length_cons, List.length_nil]); have := HLN.out; omega))
        gi_wp2_with (gi_at_call 124; refine HC.out.mono ?_; rintro e WZ (⟨rfl, hJ, hb⟩ | ⟨rfl, q, hq, hJ⟩))
        · have HJZ := Lib.hid (HTRUE.out WZ (by simpa only [List.map_cons, List.map_nil, List.map_append, List.append_assoc, List.cons_append, List.nil_append] using hJ))
          have HBZ := Lib.hid hb
          clear hJ hb
          go_roundw
          case rel => exact ⟨j + 1, by omega, by go_num, HJZ, HBZ⟩
          case measure => simp [intOf]; omega
        · obtain ⟨q', rfl, hq'⟩ : ∃ q', q = q'.map cl ∧ q' <+: parts (.mk pk pf pt pns pkids) := by
            obtain ⟨r, hr⟩ := hq
            refine ⟨(parts (.mk pk pf pt pns pkids)).take q.length, ?_, List.take_prefix _ _⟩
            have := congrArg (List.take q.length) hr
            rw [List.take_left', List.map_take.symm] at this
            · exact this
            · rfl
          have HF := Lib.hid (HFALSE.out ([(⟨#[44]⟩ : ByteArray), keyS nm] ++ q') WZ (by obtain ⟨r, hr⟩ := hq'; exact ⟨r, by first | (rw [← hr]; done) | (rw [← hr]; simp) | simp [← hr]⟩) (by simpa only [List.map_cons, List.map_nil, List.map_append, List.append_assoc, List.cons_append, List.nil_append] using hJ))
          clear hJ
          go_ret
          exact HF.out
      · have hj0' : ¬ (0 : Int) < (j : Int) := by omega
        have hj1 : j = 0 := by omega
        have HJ0 := Lib.hid hj1
        clear hj1
        have HNX2 : Hid (kidsPTo true ns kids (j + 1) = kidsPTo true ns kids j ++ ([keyS nm] ++ parts (.mk pk pf pt pns pkids))) := by show _ = _; rw [HNX.out]; simp [HJ0.out]
        have HALL : Hid ((kidsPTo true ns kids j ++ ([keyS nm] ++ parts (.mk pk pf pt pns pkids))) <+: (kidsP true ns 0 (kids.map parts))) := by show _ <+: _; rw [← HNX2.out]; exact kidsPTo_pre _ _ _ _
        have HFALSE : Hid (∀ (q : List ByteArray) W', q <+: ([keyS nm] ++ parts (.mk pk pf pt pns pkids)) → Jx (p0 ++ q.map cl) W' → YPost w0 J Jx pre ((kidsP true ns 0 (kids.map parts)).map cl) (.returned (.bool false)) W') := fun q W' hq hJ => by
          refine .inr ⟨rfl, (kidsPTo true ns kids j ++ q).map cl, ?_, by rw [HP0.out] at hJ; simpa only [List.map_append, List.append_assoc] using hJ⟩
          exact (List.IsPrefix.map cl ((List.prefix_append_right_inj _).2 hq)).trans (List.IsPrefix.map cl HALL.out)
        have HTRUE : Hid (∀ W', J (p0 ++ ([keyS nm] ++ parts (.mk pk pf pt pns pkids)).map cl) W' → J (pre ++ (kidsPTo true ns kids (j + 1)).map cl) W') := fun W' hJ => by
          rw [HNX2.out]; rw [HP0.out] at hJ; simpa only [List.map_append, List.append_assoc] using hJ
        have HLN : Hid (p0.length + ([keyS nm] ++ parts (.mk pk pf pt pns pkids)).length ≤ N) := by
          show _ ≤ _
          rw [HP0.out]
          have h1 := (List.IsPrefix.length_le HALL.out)
          simp only [List.length_append, List.length_map] at h1 ⊢
          have := HN.out
          omega
        (try simp only [List.length_append, List.length_cons, List.length_nil] at HLN)
        clear HNX HNX2 HALL

        have cn := HCN.out WB HWB.out.2
        have cnl := cell_lt cn
        simp only at cnl
        have hnm8 : nm.size ≤ 8 := HNM.out
        gi_wp2_with fail
        obtain ⟨fnW2, tmW2, asW2, boW2, hyW2, hRW2⟩ := hY.y (m - 1) p0 (cl (keyS nm)) WB HWB.out.1 (by (try simp only [List.length_append, List.length_cons, List.length_nil]); have := HLN.out; omega)
        rw [cl_val (by have := HNM.out; unfold keyS; rw [sz_append, sz_append]; have e1 : (⟨#[34]⟩ : ByteArray).size = 1 := rfl; have e2 : (⟨#[34, 58]⟩ : ByteArray).size = 2 := rfl; omega)] at hyW2
        unfold keyS at hyW2
        rw [hyW2, Oper.uponIn_round]
        refine ⟨fun h => by simp [wdp] at h, ?_⟩
        refine hRW2.mono ?_
        clear hRW2 hyW2
        rintro e W2 (⟨rfl, hJ, hb, hk⟩ | ⟨rfl, hJ⟩)
        rotate_left
        · have HF := Lib.hid (HFALSE.out [keyS nm] W2 ⟨parts (.mk pk pf pt pns pkids), by simp⟩ (by simpa only [List.map_cons, List.map_nil, List.map_append, List.append_assoc, List.cons_append, List.nil_append] using hJ))
          clear hJ
          gi_wp2
          all_goals go_ret
          all_goals exact HF.out
        have HW2 : Hid (J (p0 ++ [cl (keyS nm)]) W2 ∧ Below w0.heap.size w0 W2) := ⟨hJ, HWB.out.2.trans hb⟩
        have OW2 : Hid (Own W2 wr.heap.size 42 [.int .i64 pk, .bool pf, .string pt, .slice PA pns.length pa, .slice PK pkids.length pc]) := hk.own OWB.out (Nat.ne_of_gt HBB.out) (by decide)
        clear hJ hb hk
        clear cn cnl hnm8
        skip
        have W2k0 : W2.cell? ⟨wr.heap.size, 0, none⟩ = some (.int .i64 pk) := by rw [OW2.out.cell]; rfl
        have W2k1 : W2.cell? ⟨wr.heap.size, 1, none⟩ = some (.bool pf) := by rw [OW2.out.cell]; rfl
        have W2k2 : W2.cell? ⟨wr.heap.size, 2, none⟩ = some (.string pt) := by rw [OW2.out.cell]; rfl
        have W2k3 : W2.cell? ⟨wr.heap.size, 3, none⟩ = some (.slice PA pns.length pa) := by rw [OW2.out.cell]; rfl
        have W2k4 : W2.cell? ⟨wr.heap.size, 4, none⟩ = some (.slice PK pkids.length pc) := by rw [OW2.out.cell]; rfl
        have W2l := OW2.out.lt

        have HC := Lib.hid (HI.out pk pf pt pns pkids PA PK pa pc B0 (m - 1) (p0 ++ [cl (keyS nm)]) W2 (by have := HHT.out; omega) HPV.out HPOK.out HPL.out HW2.out.2 HW2.out.1 (by (try simp only [List.length_append, List.length_cons, List.length_nil]); have := HLN.out; omega))
        gi_wp2_with (gi_at_call 124; refine HC.out.mono ?_; rintro e WZ (⟨rfl, hJ, hb⟩ | ⟨rfl, q, hq, hJ⟩))
        · have HJZ := Lib.hid (HTRUE.out WZ (by simpa only [List.map_cons, List.map_nil, List.map_append, List.append_assoc, List.cons_append, List.nil_append] using hJ))
          have HBZ := Lib.hid hb
          clear hJ hb
          go_roundw
          case rel => exact ⟨j + 1, by omega, by go_num, HJZ, HBZ⟩
          case measure => simp [intOf]; omega
        · obtain ⟨q', rfl, hq'⟩ : ∃ q', q = q'.map cl ∧ q' <+: parts (.mk pk pf pt pns pkids) := by
            obtain ⟨r, hr⟩ := hq
            refine ⟨(parts (.mk pk pf pt pns pkids)).take q.length, ?_, List.take_prefix _ _⟩
            have := congrArg (List.take q.length) hr
            rw [List.take_left', List.map_take.symm] at this
            · exact this
            · rfl
          have HF := Lib.hid (HFALSE.out ([keyS nm] ++ q') WZ (by obtain ⟨r, hr⟩ := hq'; exact ⟨r, by first | (rw [← hr]; done) | (rw [← hr]; simp) | simp [← hr]⟩) (by simpa only [List.map_cons, List.map_nil, List.map_append, List.append_assoc, List.cons_append, List.nil_append] using hJ))
          clear hJ
          go_ret
          exact HF.out
    · have hlt' : ¬ (j : Int) < (kids.length : Int) := by omega
      obtain rfl : j = kids.length := by omega
      rw [kidsPTo_all] at HJR
      gi_wp2
      go_ret
      exact .inl ⟨rfl, HJR.out, HBR.out⟩

end Go.Proofs.YtkhcappjhefkjaaGreatDoor

