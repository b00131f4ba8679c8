/- With which bytes a sentence may go on: impl.ChartNext. -/
import Derived.Test.YtafldjbmheopjaaF6
import Derived.Test.YtafldjbmheopjaaG7
namespace Go.Proofs.Ytafldjbmheopjaa
open Go.RowKit
set_option linter.unusedVariables false

set_option maxHeartbeats 400000 in
theorem isFull_any (bb : Nat) (S : Option Addr) (n sc : Nat) (w : World) (hc : w.cell? ⟨bb, 3, none⟩ = some (.slice S n sc)) :
    Calls Try.prog 55 #[.pointer (some ⟨bb, 0, none⟩)] w fun e w' => e = .returned (.bool (decide (80 < n))) ∧ w = w' := by
  by_cases h : 80 < n
  · have h' : (80 : Int) < (n : Int) := by omega
    have E : Hid (decide (80 < n) = true) := decide_eq_true h
    go_enter Try.func55, Try.ntmps55
    go_wp2
    go_ret
    exact ⟨ret_bool (by first | rfl | rw [E.out]), rfl⟩
  · have h' : ¬ (80 : Int) < (n : Int) := by omega
    have E : Hid (decide (80 < n) = false) := decide_eq_false h
    go_enter Try.func55, Try.ntmps55
    go_wp2
    go_ret
    exact ⟨ret_bool (by first | rfl | rw [E.out]), rfl⟩

set_option maxRecDepth 100000 in
set_option maxHeartbeats 8000000 in
theorem nextBytes_any (hd hd' : Int) (ps qs : List Pd) (ts : List (List Sy)) (bb cap sc wb : Nat) (A S : Option Addr) (w v : World) (hIT : IsTrim hd ps hd' qs) (hf : (cfgOkB hd ps && chartOkB qs ts) = true) (hs : Small ps) (hts : SmallT ts)
    (hbv : Below w.heap.size w v) (hall : ∀ X, (∀ k, wb ≤ k → k < v.heap.size → X.heap[k]? = v.heap[k]?) → BQ X bb A cap qs ∧ X.cell? ⟨bb, 3, none⟩ = some (.slice S ts.length sc) ∧ Sts X S ts) :
    Calls Try.prog 32 #[.pointer (some ⟨bb, 0, none⟩)] v (NextPost hd ps ts w) := by
  obtain ⟨MC, hMC, hmk⟩ := mk256
  have hO0 : Own (v.alloc (.cells MC 4)) v.heap.size 4 (bools (List.replicate 256 false)) := by
    have := Own.new v 4 MC
    rw [hMC] at this
    exact this
  have hb1 : Below v.heap.size v (v.alloc (.cells MC 4)) := below_box _
  have HALL : Hid (∀ X, (∀ k, wb ≤ k → k < v.heap.size → X.heap[k]? = (v.alloc (.cells MC 4)).heap[k]?) → BQ X bb A cap qs ∧ X.cell? ⟨bb, 3, none⟩ = some (.slice S ts.length sc) ∧ Sts X S ts) := fun X hX => hall X (fun k h1 h2 => (hX k h1 h2).trans (hb1.block k h2))
  have HO2 := Lib.hid hO0
  have HB2 := Lib.hid (hbv.trans (hb1.mono hbv.size))
  have HS := Lib.hid hs
  have HTS := Lib.hid hts
  have HIT := Lib.hid hIT
  have HF := Lib.hid hf
  have hwg := hbv.size
  have hgl2 := hO0.lt
  clear hs hts hO0 hIT hf hb1 hall hbv hMC
  go_enter Try.func32, Try.ntmps32
  go_wp2_with fail
  generalize hw2 : v.alloc (.cells MC 4) = w2 at *
  clear hw2 hmk
  generalize v.heap.size = gb at *
  obtain ⟨hq, hc, hst⟩ := HALL.out w2 (fun _ _ _ => rfl)
  have hf := HF.out
  have hch : chartOkB qs ts = true := by simp only [Bool.and_eq_true] at hf; exact hf.2
  have hcf : cfgOkB hd ps = true := by simp only [Bool.and_eq_true] at hf; exact hf.1
  have ISF := Lib.hid (isFull_any bb S ts.length sc w2 hc)
  by_cases h80 : 80 < ts.length
  · have FIN : Hid (NextPost hd ps ts w (.returned (.slice (some ⟨gb, 0, none⟩) 256 256)) w2) := ⟨hd', qs, _, HIT.out, rfl, by omega, by unfold nextAns; rw [if_neg (by simp; intro _ _; omega)]; exact HO2.out, HB2.out⟩
    rw [decide_eq_true h80] at ISF
    clear hf hq hc hst hch hcf h80
    refine ISF.out.mono ?_
    rintro e w3 ⟨rfl, rfl⟩
    go_wp2
    go_ret
    exact FIN.out
  · rw [decide_eq_false h80] at ISF
    have htl : 1 ≤ ts.length := by unfold chartOkB at hch; simp at hch; omega
    obtain ⟨K, hK⟩ : ∃ K, ts.length = K + 1 := ⟨ts.length - 1, by omega⟩
    obtain ⟨b, off, eS, LK, lkc, c0, hlast⟩ := hst.at_ (show K < ts.length by omega)
    subst eS
    have hlt := lastT_eq hK
    have EPT : Hid (∀ w', Own w' (gb) 4 (bools (nextTo qs (lastT ts) (lastT ts).length)) → Below w.heap.size w w' → NextPost hd ps ts w (.returned (.slice (some ⟨gb, 0, none⟩) 256 256)) w') := fun w' ho hb => ⟨hd', qs, _, HIT.out, rfl, by omega, by unfold nextAns; rw [if_pos (by rw [hcf, hch, decide_eq_true (by omega : ts.length ≤ 80)]; rfl)]; exact ho, hb⟩
    have HITM : Hid (∀ x ∈ ts[K]'(by omega), itemOkB qs K x = true) := chart_items hch (by omega)
    have hsml := HTS.out _ (List.getElem_mem (show K < ts.length by omega))
    have hbg : b ≠ gb := fun e => by
      rw [e, HO2.out.cell] at c0
      unfold bools at c0
      rw [List.getElem?_map] at c0
      cases hx : (List.replicate 256 false)[off + K]? with
      | none => rw [hx] at c0; cases c0
      | some y => rw [hx] at c0; cases c0
    have HSY : Hid (∀ X, (∀ k, wb ≤ k → k < gb → X.heap[k]? = w2.heap[k]?) → X.heap[b]? = w2.heap[b]? → BQ X bb A cap qs ∧ Syms X LK (ts[K]'(by omega))) := fun X hX hXb => by
      obtain ⟨q1, q2, q3⟩ := HALL.out X hX
      refine ⟨q1, ?_⟩
      obtain ⟨b', off', e, K', kc', c0', hn'⟩ := q3.at_ (show K < ts.length by omega)
      injection e with e
      injection e with e1 e2
      subst e1 e2
      rw [World.cell?_of_block (a := ⟨b, off + K, none⟩) hXb, c0] at c0'
      injection c0' with c0'
      injection c0' with e3 e4 e5
      rw [e3]; exact hn'
    rw [← hlt] at c0 hlast HITM hsml HSY
    have hbl := cell_lt c0
    simp only at hbl
    rw [hK] at hc
    have LST := Lib.hid (last_any bb (some ⟨b, off, none⟩) sc K LK (lastT ts).length lkc b off w2 hc (by omega) c0)
    have HSM := Lib.hid (HIT.out.small HS.out)
    have HBD := Lib.hid (HIT.out.bytes hcf)
    have hq4 := HIT.out.len
    clear hf hq hc hst hch hcf HALL h80 htl hK hlt c0 hlast
    generalize lastT ts = t at *
    refine ISF.out.mono ?_
    rintro e w3 ⟨rfl, rfl⟩
    go_wp2_with fail
    refine LST.out.mono ?_
    rintro e X5 ⟨rfl, hb5⟩
    have hO5 : Own X5 (gb) 4 (bools (nextTo qs t 0)) := HO2.out.keep hb5
    have HB5 := Lib.hid (HB2.out.trans (hb5.mono HB2.out.size))
    have H5 := Lib.hid hb5
    have hs5 := hb5.size
    have HSZ : Hid (∀ X, Fr (fun j => j = gb) (fun j => j = gb) X5 X → BQ X bb A cap qs ∧ Syms X LK t) := fun X hf => HSY.out X (fun k h1 h2 => (hf.block k (by omega) (by omega)).trans (H5.out.block k (by omega))) ((hf.block b (by omega) hbg).trans (H5.out.block b hbl))
    clear hb5 ISF LST HSY
    go_wp2
    go_loopw [16] (fun i wr => ∃ k : Nat, k ≤ t.length ∧ i = .int .i64 k ∧ Own wr (gb) 4 (bools (nextTo qs t k)) ∧ Fr (fun j => j = gb) (fun j => j = gb) X5 wr ∧ Below w.heap.size w wr) (fun i _ => t.length - (intOf i).toNat)
    case atStart => exact ⟨0, Nat.zero_le _, rfl, hO5, Fr.refl _ _, HB5.out⟩
    case round =>
      clear hO5
      obtain ⟨k, hk, rfl, hO, hf, hb⟩ := hrel
      by_cases hlt : k < t.length
      · obtain ⟨kb, ko, rfl, hsy⟩ := (HSZ.out _ hf).2.at_ hlt
        obtain ⟨s0, s1, s2⟩ := hsy
        have hlt' : (k : Int) < (t.length : Int) := by omega
        obtain ⟨i, d, f, hi, hx, hdl, _⟩ := item_parts (HITM.out _ (List.getElem_mem hlt))
        have NS : Hid (nextTo qs t (k + 1) = match qs[i].body[d]? with | some s => if s.head = -1 then fill (nextTo qs t k) s.low.toNat (s.high + 1 - s.low).toNat else nextTo qs t k | none => nextTo qs t k) := by
          show _ = _
          rw [nextTo_succ qs t k hlt, hx]
          unfold stepN
          simp only [pAt_nat hi, Int.toNat_natCast]
          all_goals rfl
        rw [hx] at s0 s1 s2
        simp only at s0 s1 s2
        clear hx
        have hbx : Below wr.heap.size wr (wr.alloc (.cells #[.int .i64 (i : Int), .int .i64 (d : Int), .int .i64 (f : Int)] 54)) := below_box _
        have hfx := hf.trans (Fr.of_below _ hbx)
        have NX0 := Lib.hid (next_any bb A cap qs i d f _ (HSZ.out _ hfx).1 (by omega) HSM.out hi hdl)
        have hpl := HSM.out _ (List.getElem_mem hi)
        have HBM := Lib.hid (HBD.out _ (List.getElem_mem hi))
        have HOX := Lib.hid (hO.keep hbx)
        have HFX := Lib.hid hfx
        have HBX := Lib.hid (hb.trans (hbx.mono hb.size))
        clear hO hf hb hbx hfx
        generalize qs[i] = p at *
        by_cases h : d = p.body.length
        · rw [show nextV p d = .agg #[.int .i64 0, .int .i64 0, .int .i64 0] from by unfold nextV; rw [List.getElem?_eq_none (by omega)], show isWaiting p d = false from by unfold isWaiting; simp [h]] at NX0
          have EF : Hid (nextTo qs t (k + 1) = nextTo qs t k) := by show _ = _; rw [NS.out, List.getElem?_eq_none (by omega)]
          clear h NS
          go_wp2_with fail
          refine NX0.out.mono ?_
          rintro e w4 ⟨rfl, hb4⟩
          have hbd : Below (wr.alloc (.cells #[.int .i64 (i : Int), .int .i64 (d : Int), .int .i64 (f : Int)] 54)).heap.size (wr.alloc (.cells #[.int .i64 (i : Int), .int .i64 (d : Int), .int .i64 (f : Int)] 54)) (w4.alloc (.cells #[.int .i64 0, .int .i64 0, .int .i64 0] 68)) := hb4.alloc hb4.size _
          have hO6 := HOX.out.keep hbd
          have hf6 := HFX.out.trans (Fr.of_below _ hbd)
          have hb6 := HBX.out.trans (hbd.mono HBX.out.size)
          rw [← EF.out] at hO6
          have HO6 := Lib.hid hO6
          have HF6 := Lib.hid hf6
          have HB6 := Lib.hid hb6
          clear hb4 hbd hO6 hf6 hb6 s0 s1 s2
          go_wp2
          go_roundw
          case rel => exact ⟨k + 1, by omega, by go_num, HO6.out, HF6.out, HB6.out⟩
          case measure => simp [intOf]; omega
        · have hdl2 : d < p.body.length := by omega
          rw [show nextV p d = .agg #[.int .i64 p.body[d].head, .int .i64 p.body[d].low, .int .i64 p.body[d].high] from by unfold nextV; rw [List.getElem?_eq_getElem hdl2], show isWaiting p d = true from by unfold isWaiting; simp [hdl2]] at NX0
          have hsb0 := HBM.out _ (List.getElem_mem hdl2)
          rw [List.getElem?_eq_getElem hdl2] at NS
          simp only at NS
          generalize p.body[d] = s at *
          clear h
          by_cases he : s.head = -1
          · have he' : (s.head == -1) = true := by simp [he]
            have hsb := hsb0 he
            rw [if_pos he] at NS
            clear he hsb0
            go_wp2_with fail
            refine NX0.out.mono ?_
            rintro e w4 ⟨rfl, hb4⟩
            have hbd : Below (wr.alloc (.cells #[.int .i64 (i : Int), .int .i64 (d : Int), .int .i64 (f : Int)] 54)).heap.size (wr.alloc (.cells #[.int .i64 (i : Int), .int .i64 (d : Int), .int .i64 (f : Int)] 54)) (w4.alloc (.cells #[.int .i64 s.head, .int .i64 s.low, .int .i64 s.high] 68)) := hb4.alloc hb4.size _
            have hO7 := HOX.out.keep hbd
            have HF7 := Lib.hid (HFX.out.trans (Fr.of_below _ hbd))
            have HB7 := Lib.hid (HBX.out.trans (hbd.mono HBX.out.size))
            have b0 : (w4.alloc (.cells #[.int .i64 s.head, .int .i64 s.low, .int .i64 s.high] 68)).cell? ⟨w4.heap.size, 0, none⟩ = some (.int .i64 s.head) := by simp
            have b1 : (w4.alloc (.cells #[.int .i64 s.head, .int .i64 s.low, .int .i64 s.high] 68)).cell? ⟨w4.heap.size, 1, none⟩ = some (.int .i64 s.low) := by simp
            have b2 : (w4.alloc (.cells #[.int .i64 s.head, .int .i64 s.low, .int .i64 s.high] 68)).cell? ⟨w4.heap.size, 2, none⟩ = some (.int .i64 s.high) := by simp
            have hg6 : gb < w4.heap.size := (HOX.out.keep hb4).lt
            clear hb4 hbd s0 s1 s2 NX0 HOX HFX HBX
            generalize hYY : w4.alloc (.cells #[.int .i64 s.head, .int .i64 s.low, .int .i64 s.high] 68) = Y at *
            obtain ⟨lo, hlo⟩ : ∃ lo : Nat, s.low = lo := ⟨s.low.toNat, by omega⟩
            obtain ⟨hh, hhh⟩ : ∃ hh : Nat, s.high = hh := ⟨s.high.toNat, by omega⟩
            have b1' : Y.cell? ⟨w4.heap.size, 1, none⟩ = some (.int .i64 (lo : Int)) := by rw [b1, hlo]
            have b2' : Y.cell? ⟨w4.heap.size, 2, none⟩ = some (.int .i64 (hh : Int)) := by rw [b2, hhh]
            have hlh : lo ≤ hh ∧ hh ≤ 255 := by omega
            have EF : Hid (nextTo qs t (k + 1) = fill (nextTo qs t k) lo (hh + 1 - lo)) := by
              show _ = _
              rw [NS.out, hlo, hhh]
              congr 1
              omega
            have hnl := nextTo_length qs t k
            generalize nextTo qs t k = B at *
            have HNL := Lib.hid hnl
            clear NS hsb hlo hhh hnl b1 b2
            go_wp2
            clear hYY b0
            go_loopw [8] (fun i wr => ∃ v : Nat, lo ≤ v ∧ v ≤ hh + 1 ∧ i = .int .i64 v ∧ Own wr (gb) 4 (bools (fill B lo (v - lo))) ∧ Fr (fun j => j = gb) (fun j => j = gb) Y wr) (fun i _ => hh + 1 - (intOf i).toNat)
            case atStart => exact ⟨lo, Nat.le_refl _, by omega, rfl, by rw [Nat.sub_self]; exact hO7, Fr.refl _ _⟩
            case round =>
              clear hO7
              obtain ⟨v, hv1, hv2, rfl, hO, hfi⟩ := hrel
              have b2r := hfi.cell b2' (fun e => by simp only at e; omega)
              by_cases hvl : v ≤ hh
              · have hvl' : (v : Int) ≤ (hh : Int) := by omega
                have hfl : (fill B lo (v - lo)).length = 256 := by rw [fill_length]; exact HNL.out
                have hv256 : (v : Int) < 256 := by omega
                have hgl := hO.lt
                obtain ⟨u0, hu0⟩ : ∃ u, wr.cell? ⟨gb, v, none⟩ = some u := ⟨_, hO.cell_ (by rw [bools_length, hfl]; omega)⟩
                have f0 := hO.frozen v
                have hO8 := hO.putFlag v true
                have e1 : (fill B lo (v - lo)).set v true = fill B lo (v + 1 - lo) := by
                  rw [show v + 1 - lo = (v - lo) + 1 by omega]
                  show _ = (fill B lo (v - lo)).set (lo + (v - lo)) true
                  rw [show lo + (v - lo) = v by omega]
                rw [e1] at hO8
                have hf8 := hfi.setCell (p := ⟨gb, v, none⟩) rfl (.bool true)
                have HO8 := Lib.hid hO8
                have HF8 := Lib.hid hf8
                clear hO hfi hfl e1 hO8 hf8
                go_wp2
                go_roundw
                case rel => exact ⟨v + 1, by omega, by omega, by go_num, HO8.out, HF8.out⟩
                case measure => simp [intOf]; omega
              · have hvl' : ¬ (v : Int) ≤ (hh : Int) := by omega
                have ev : v - lo = hh + 1 - lo := by omega
                rw [ev, ← EF.out] at hO
                have hf9 := HF7.out.trans hfi
                have hb9 : Below w.heap.size w wr := HB7.out.trans (hfi.below (base := w.heap.size) (fun j e => by omega) HB7.out.size)
                clear ev hfi
                go_wp2
                go_roundw
                case rel => exact ⟨k + 1, by omega, by go_num, hO, hf9, hb9⟩
                case measure => simp [intOf]; omega
          · have he' : (s.head == -1) = false := by simp [he]
            have EF : Hid (nextTo qs t (k + 1) = nextTo qs t k) := by show _ = _; rw [NS.out, if_neg he]
            clear he hsb0 NS
            go_wp2_with fail
            refine NX0.out.mono ?_
            rintro e w4 ⟨rfl, hb4⟩
            have hbd : Below (wr.alloc (.cells #[.int .i64 (i : Int), .int .i64 (d : Int), .int .i64 (f : Int)] 54)).heap.size (wr.alloc (.cells #[.int .i64 (i : Int), .int .i64 (d : Int), .int .i64 (f : Int)] 54)) (w4.alloc (.cells #[.int .i64 s.head, .int .i64 s.low, .int .i64 s.high] 68)) := hb4.alloc hb4.size _
            have hO6 := HOX.out.keep hbd
            have hf6 := HFX.out.trans (Fr.of_below _ hbd)
            have hb6 := HBX.out.trans (hbd.mono HBX.out.size)
            rw [← EF.out] at hO6
            have HO6 := Lib.hid hO6
            have HF6 := Lib.hid hf6
            have HB6 := Lib.hid hb6
            clear hb4 hbd hO6 hf6 hb6 s0 s1 s2
            go_wp2
            go_roundw
            case rel => exact ⟨k + 1, by omega, by go_num, HO6.out, HF6.out, HB6.out⟩
            case measure => simp [intOf]; omega
      · have hlt' : ¬ (k : Int) < (t.length : Int) := by omega
        obtain rfl : k = t.length := by omega
        have FIN := Lib.hid (EPT.out wr hO hb)
        go_wp2
        go_ret
        exact FIN.out

set_option maxRecDepth 100000 in
set_option maxHeartbeats 4000000 in
theorem implNext_any (hd : Int) (ps : List Pd) (a : Option Addr) (c : Nat) (ts : List (List Sy)) (A0 : Option Addr) (C0 : Nat) (w : World) (hr : Pds w a ps) (hm : ps.length ≤ 1048576) (hs : Small ps) (ht : Sts w A0 ts) (htm : ts.length ≤ 1048576) (hts : SmallT ts) :
    Calls Try.prog 14 #[.agg #[.int .i64 hd, .slice a ps.length c], .agg #[.slice A0 ts.length C0]] w (NextPost hd ps ts w) := by
  obtain ⟨MC, hMC, hmk⟩ := mk256
  have hb0 : Below w.heap.size w ((w.alloc (.cells #[.int .i64 hd, .slice a ps.length c] 33)).alloc (.cells #[.slice A0 ts.length C0] 37)) := (below_box _).alloc (by simp) _
  have HB := Lib.hid (bof_any hd ps a c ts A0 C0 _ (hr.keep hb0) hm hs (ht.keep hb0) htm hts)
  have HB0 := Lib.hid hb0
  have HS := Lib.hid hs
  have HTS := Lib.hid hts
  have HMK := Lib.hid hmk
  have HMC := Lib.hid hMC
  clear hr hs ht hts hb0 hMC hmk
  go_enter Try.func14, Try.ntmps14
  go_wp2_with fail
  refine HB.out.mono ?_
  clear HB
  rintro e w2 ⟨hd', qs, hIT, hb2, ⟨hf, rfl⟩ | ⟨hf, bb, A, cap, S, sc, rfl, hall⟩⟩
  · have hb3 := HB0.out.trans (hb2.mono HB0.out.size)
    have hO3 : Own (w2.alloc (.cells MC 4)) w2.heap.size 4 (bools (List.replicate 256 false)) := by
      have := Own.new w2 4 MC
      rw [HMC.out] at this
      exact this
    have FIN : Hid (NextPost hd ps ts w (.returned (.slice (some ⟨w2.heap.size, 0, none⟩) 256 256)) (w2.alloc (.cells MC 4))) := ⟨hd', qs, _, hIT, rfl, hb3.size, by unfold nextAns; rw [if_neg (by rw [← Bool.and_assoc, hf]; simp)]; exact hO3, hb3.alloc hb3.size _⟩
    have hmk := HMK.out
    clear hf hIT hb2 hb3 hO3
    go_wp2
    go_ret
    exact FIN.out
  · have HNX := Lib.hid (nextBytes_any hd hd' ps qs ts bb cap sc _ A S w w2 hIT hf HS.out HTS.out (HB0.out.trans (hb2.mono HB0.out.size)) hall)
    clear hf hIT hb2 hall
    go_wp2_with fail
    refine HNX.out.mono ?_
    rintro e w3 ⟨hd2, qs2, g2, h1, rfl, h2, h3, h4⟩
    have FIN : Hid (NextPost hd ps ts w (.returned (.slice (some ⟨g2, 0, none⟩) 256 256)) w3) := ⟨hd2, qs2, g2, h1, rfl, h2, h3, h4⟩
    clear h1 h2 h3 h4
    go_wp2
    go_ret
    exact FIN.out

end Go.Proofs.Ytafldjbmheopjaa
