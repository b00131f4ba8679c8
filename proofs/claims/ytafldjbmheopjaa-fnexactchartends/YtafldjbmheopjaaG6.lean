/- Whether a sentence ends: the closure of ends, the search, ends. -/
import Derived.Test.YtafldjbmheopjaaG5
namespace Go.Proofs.Ytafldjbmheopjaa
open Go.RowKit
set_option linter.unusedVariables false

set_option maxRecDepth 100000 in
set_option maxHeartbeats 1000000 in
theorem ends1_any (bb xb : Nat) (A : Option Addr) (cap : Nat) (qs : List Pd) (i d f : Nat) (w : World) (hx : w.cell? ⟨xb, 0, none⟩ = some (.pointer (some ⟨bb, 0, none⟩))) (hq : BQ w bb A cap qs) (hm : qs.length ≤ 1048576) (hs : Small qs) (hi : i < qs.length) (hd' : d ≤ qs[i].body.length) :
    Calls Try.prog 51 #[.agg #[.int .i64 (i : Int), .int .i64 (d : Int), .int .i64 (f : Int)], .pointer (some ⟨xb, 0, none⟩)] w fun e w' => e = .returned (.bool (endItemB qs ⟨(i : Int), (d : Int), (f : Int)⟩)) ∧ Below w.heap.size w w' := by
  have EB : Hid (endItemB qs ⟨(i : Int), (d : Int), (f : Int)⟩ = (decide ((f : Int) = 0) && (decide (qs[i].head = 0) && decide (d = qs[i].body.length)))) := by
    show _ = _
    unfold endItemB
    simp only [pAt_nat hi, Int.natCast_inj]
  have hb0 : Below w.heap.size w (w.alloc (.cells #[.int .i64 (i : Int), .int .i64 (d : Int), .int .i64 (f : Int)] 54)) := below_box _
  have hx1 := cell_alloc (o := .cells #[.int .i64 (i : Int), .int .i64 (d : Int), .int .i64 (f : Int)] 54) hx
  have hlx := cell_lt hx
  simp only at hlx
  have HQ1 := Lib.hid (hq.keep hb0)
  have NX0 : Hid (∀ X, BQ X bb A cap qs → Calls Try.prog 47 #[.pointer (some ⟨bb, 0, none⟩), .agg #[.int .i64 (i : Int), .int .i64 (d : Int), .int .i64 (f : Int)]] X fun e w' => e = .returned (.tuple #[nextV qs[i] d, .bool (isWaiting qs[i] d)]) ∧ Below X.heap.size X w') := fun X h => next_any bb A cap qs i d f X h hm hs hi hd'
  have HD0 : Hid (∀ X, BQ X bb A cap qs → Calls Try.prog 52 #[.pointer (some ⟨bb, 0, none⟩), .agg #[.int .i64 (i : Int), .int .i64 (d : Int), .int .i64 (f : Int)]] X fun e w' => e = .returned (.int .i64 qs[i].head) ∧ Below X.heap.size X w') := fun X h => bhead_any bb A cap qs i d f X h hm hi
  clear hq hs hx
  generalize qs[i] = p at *
  have z0 : (w.alloc (.cells #[.int .i64 (i : Int), .int .i64 (d : Int), .int .i64 (f : Int)] 54)).cell? ⟨w.heap.size, 0, none⟩ = some (.int .i64 (i : Int)) := by simp
  have z1 : (w.alloc (.cells #[.int .i64 (i : Int), .int .i64 (d : Int), .int .i64 (f : Int)] 54)).cell? ⟨w.heap.size, 1, none⟩ = some (.int .i64 (d : Int)) := by simp
  have z2 : (w.alloc (.cells #[.int .i64 (i : Int), .int .i64 (d : Int), .int .i64 (f : Int)] 54)).cell? ⟨w.heap.size, 2, none⟩ = some (.int .i64 (f : Int)) := by simp
  by_cases h : d = p.body.length
  · have NX : Hid (∀ X, BQ X bb A cap qs → Calls Try.prog 47 #[.pointer (some ⟨bb, 0, none⟩), .agg #[.int .i64 (i : Int), .int .i64 (d : Int), .int .i64 (f : Int)]] X fun e w' => e = .returned (.tuple #[.agg #[.int .i64 0, .int .i64 0, .int .i64 0], .bool false]) ∧ Below X.heap.size X w') := fun X hh => by
      have := NX0.out X hh
      rw [show nextV p d = .agg #[.int .i64 0, .int .i64 0, .int .i64 0] from by unfold nextV; rw [List.getElem?_eq_none (by omega)], show isWaiting p d = false from by unfold isWaiting; simp [h]] at this
      exact this
    by_cases hf : f = 0
    · have E2 : Hid (endItemB qs ⟨(i : Int), (d : Int), (f : Int)⟩ = (p.head == 0)) := EB.out.trans (by simp [hf, h]; rfl)
      have hfb : ((f : Int) == 0) = true := by simp [hf]
      clear h hf
      go_enter Try.func51, Try.ntmps51
      go_wp2_with fail
      refine (NX.out _ HQ1.out).mono ?_
      rintro e w1 ⟨rfl, hb1⟩
      have hb2 : Below w.heap.size w (w1.alloc (.cells #[.int .i64 0, .int .i64 0, .int .i64 0] 68)) := (hb0.trans (hb1.mono hb0.size)).alloc (Nat.le_trans hb0.size hb1.size) _
      replace hx1 := cell_alloc (o := .cells #[.int .i64 0, .int .i64 0, .int .i64 0] 68) (cell_keep hb1 hx1)
      replace z0 := cell_alloc (o := .cells #[.int .i64 0, .int .i64 0, .int .i64 0] 68) (cell_keep hb1 z0)
      replace z1 := cell_alloc (o := .cells #[.int .i64 0, .int .i64 0, .int .i64 0] 68) (cell_keep hb1 z1)
      replace z2 := cell_alloc (o := .cells #[.int .i64 0, .int .i64 0, .int .i64 0] 68) (cell_keep hb1 z2)
      have HQ2 := Lib.hid ((HQ1.out.keep hb1).keep (below_box (.cells #[.int .i64 0, .int .i64 0, .int .i64 0] 68)))
      clear hb0 hb1
      go_wp2_with fail
      refine (HD0.out _ HQ2.out).mono ?_
      rintro e w3 ⟨rfl, hb3⟩
      go_wp2
      go_ret
      exact ⟨ret_bool E2.out.symm, hb2.trans (hb3.mono hb2.size)⟩
    · have E2 : Hid (endItemB qs ⟨(i : Int), (d : Int), (f : Int)⟩ = false) := EB.out.trans (by simp [hf])
      have hfb : ((f : Int) == 0) = false := by simp [hf]
      clear h
      go_enter Try.func51, Try.ntmps51
      go_wp2_with fail
      refine (NX.out _ HQ1.out).mono ?_
      rintro e w1 ⟨rfl, hb1⟩
      have hb2 : Below w.heap.size w (w1.alloc (.cells #[.int .i64 0, .int .i64 0, .int .i64 0] 68)) := (hb0.trans (hb1.mono hb0.size)).alloc (Nat.le_trans hb0.size hb1.size) _
      replace hx1 := cell_alloc (o := .cells #[.int .i64 0, .int .i64 0, .int .i64 0] 68) (cell_keep hb1 hx1)
      replace z2 := cell_alloc (o := .cells #[.int .i64 0, .int .i64 0, .int .i64 0] 68) (cell_keep hb1 z2)
      clear hb0 hb1
      go_wp2
      go_ret
      exact ⟨ret_bool E2.out.symm, hb2⟩
  · have hdl : d < p.body.length := by omega
    have NX : Hid (∀ X, BQ X bb A cap qs → Calls Try.prog 47 #[.pointer (some ⟨bb, 0, none⟩), .agg #[.int .i64 (i : Int), .int .i64 (d : Int), .int .i64 (f : Int)]] X fun e w' => e = .returned (.tuple #[.agg #[.int .i64 p.body[d].head, .int .i64 p.body[d].low, .int .i64 p.body[d].high], .bool true]) ∧ Below X.heap.size X w') := fun X hh => by
      have := NX0.out X hh
      rw [show nextV p d = .agg #[.int .i64 p.body[d].head, .int .i64 p.body[d].low, .int .i64 p.body[d].high] from by unfold nextV; rw [List.getElem?_eq_getElem hdl], show isWaiting p d = true from by unfold isWaiting; simp [hdl]] at this
      exact this
    have E2 : Hid (endItemB qs ⟨(i : Int), (d : Int), (f : Int)⟩ = false) := EB.out.trans (by simp [h])
    generalize p.body[d] = s at *
    go_enter Try.func51, Try.ntmps51
    go_wp2_with fail
    refine (NX.out _ HQ1.out).mono ?_
    rintro e w1 ⟨rfl, hb1⟩
    have hb2 : Below w.heap.size w (w1.alloc (.cells #[.int .i64 s.head, .int .i64 s.low, .int .i64 s.high] 68)) := (hb0.trans (hb1.mono hb0.size)).alloc (Nat.le_trans hb0.size hb1.size) _
    clear hb0 hb1
    go_wp2
    go_ret
    exact ⟨ret_bool E2.out.symm, hb2⟩

set_option maxRecDepth 100000 in
set_option maxHeartbeats 1000000 in
theorem indexIt_any (cp : Value) (f : Sy → Bool) (t : List Sy) (A : Option Addr) (c : Nat) (w : World) (hr : Syms w A t) (hF : ∀ x ∈ t, ∀ W, Below w.heap.size w W → Calls Try.prog 51 #[.agg #[.int .i64 x.head, .int .i64 x.low, .int .i64 x.high], cp] W fun e w' => e = .returned (.bool (f x)) ∧ Below W.heap.size W w') (hm : t.length ≤ 1048576) :
    Calls Try.prog 49 #[.slice A t.length c, .func (.func 51) #[] #[cp]] w fun e w' => ∃ r : Int, e = .returned (.int .i64 r) ∧ decide (0 ≤ r) = t.any f ∧ Below w.heap.size w w' := by
  have HR := Lib.hid hr
  have HF := Lib.hid hF
  clear hr hF
  go_enter Try.func49, Try.ntmps49
  go_wp2
  go_loopw [9] (fun i wr => ∃ k : Nat, k ≤ t.length ∧ i = .int .i64 k ∧ Hid (∀ j (h : j < t.length), j < k → f t[j] = false) ∧ Below w.heap.size w wr) (fun i _ => t.length - (intOf i).toNat)
  case atStart => exact ⟨0, Nat.zero_le _, rfl, fun j _ hj => by omega, Below.refl _ _⟩
  case round =>
    obtain ⟨k, hk, rfl, HK, hb⟩ := hrel
    by_cases hlt : k < t.length
    · obtain ⟨b, off, rfl, hsy⟩ := (HR.out.keep hb).at_ hlt
      obtain ⟨s0, s1, s2⟩ := hsy
      have hlt' : (k : Int) < (t.length : Int) := by omega
      have hbx : Below w.heap.size w (wr.alloc (.cells #[.int .i64 t[k].head, .int .i64 t[k].low, .int .i64 t[k].high] 54)) := hb.alloc hb.size _
      have HC := Lib.hid (HF.out t[k] (List.getElem_mem hlt) _ hbx)
      have EX : Hid (f t[k] = true → t.any f = true) := fun q => List.any_eq_true.2 ⟨_, List.getElem_mem hlt, q⟩
      have EY : Hid (f t[k] = false → ∀ j (h : j < t.length), j < k + 1 → f t[j] = false) := fun q j h hj => by
        rcases Nat.lt_succ_iff_lt_or_eq.1 hj with h3 | h3
        · exact HK j h h3
        · subst h3; exact q
      generalize t[k] = x at *
      go_wp2_with fail
      refine HC.out.mono ?_
      rintro e w2 ⟨rfl, hb2⟩
      have hb' : Below w.heap.size w w2 := hbx.trans (hb2.mono hbx.size)
      clear hb2 s0 s1 s2 hb hbx HC
      cases q : f x
      · have Q := Lib.hid (EY.out q)
        go_wp2
        go_roundw
        case rel => exact ⟨k + 1, by omega, by go_num, Q.out, hb'⟩
        case measure => simp [intOf]; omega
      · have Q := Lib.hid (EX.out q)
        go_wp2
        go_ret
        exact ⟨k, rfl, by rw [Q.out]; simp, hb'⟩
    · have hlt' : ¬ (k : Int) < (t.length : Int) := by omega
      have Q : Hid (t.any f = false) := by
        show _ = _
        rw [List.any_eq_false]
        intro x hx
        obtain ⟨j, hj, rfl⟩ := List.getElem_of_mem hx
        simp [HK j hj (by omega)]
      go_wp2
      go_ret
      exact ⟨-1, rfl, by rw [Q.out]; rfl, hb⟩

set_option maxRecDepth 100000 in
set_option maxHeartbeats 1000000 in
theorem ends_any (bb : Nat) (A : Option Addr) (cap : Nat) (qs : List Pd) (ts : List (List Sy)) (S : Option Addr) (sc : Nat) (w : World) (hq : BQ w bb A cap qs) (hc : w.cell? ⟨bb, 3, none⟩ = some (.slice S ts.length sc)) (ht : Sts w S ts) (hch : chartOkB qs ts = true)
    (hm : qs.length ≤ 1048576) (hs : Small qs) (htm : ts.length ≤ 1048576) (hts : SmallT ts) :
    Calls Try.prog 29 #[.pointer (some ⟨bb, 0, none⟩)] w fun e w' => e = .returned (.bool ((lastT ts).any (endItemB qs))) ∧ Below w.heap.size w w' := by
  have hb0 : Below w.heap.size w (w.alloc (.cells #[.pointer (some ⟨bb, 0, none⟩)] 61)) := below_box _
  have htl : 1 ≤ ts.length := by unfold chartOkB at hch; simp at hch; omega
  obtain ⟨K, hK⟩ : ∃ K, ts.length = K + 1 := ⟨ts.length - 1, by omega⟩
  obtain ⟨b, off, rfl, LK, lkc, c0, hlast⟩ := (ht.keep hb0).at_ (show K < ts.length by omega)
  have hlt := lastT_eq hK
  have HIT5 : ∀ x ∈ ts[K]'(by omega), itemOkB qs K x = true := chart_items hch (by omega)
  have hsml := hts _ (List.getElem_mem (show K < ts.length by omega))
  rw [← hlt] at c0 hlast HIT5 hsml
  have hc1 := cell_alloc (o := .cells #[.pointer (some ⟨bb, 0, none⟩)] 61) hc
  rw [hK] at hc1
  have z0 : (w.alloc (.cells #[.pointer (some ⟨bb, 0, none⟩)] 61)).cell? ⟨w.heap.size, 0, none⟩ = some (.pointer (some ⟨bb, 0, none⟩)) := by simp
  have HL := Lib.hid (last_any bb (some ⟨b, off, none⟩) sc K LK (lastT ts).length lkc b off _ hc1 (by omega) c0)
  have HLA := Lib.hid hlast
  have HQ1 := Lib.hid (hq.keep hb0)
  have HI := Lib.hid HIT5
  have HSQ := Lib.hid hs
  clear hlast hc hc1 ht hch hlt htl hq HIT5 hs hts c0 hK
  generalize lastT ts = t at *
  have HZ := Lib.hid z0
  generalize hW : w.alloc (.cells #[.pointer (some ⟨bb, 0, none⟩)] 61) = W at *
  go_enter Try.func29, Try.ntmps29
  go_wp2_with fail
  refine HL.out.mono ?_
  rintro e w1 ⟨rfl, hb1⟩
  have hb2 : Below w.heap.size w w1 := hb0.trans (hb1.mono hb0.size)
  have HIX := Lib.hid (indexIt_any (.pointer (some ⟨w.heap.size, 0, none⟩)) (endItemB qs) t LK lkc w1 (HLA.out.keep hb1) (fun x hx X hbX => by
    obtain ⟨i, d, f, hi, rfl, hdl, _⟩ := item_parts (HI.out x hx)
    have hWX : Below W.heap.size W X := hb1.trans (hbX.mono hb1.size)
    exact ends1_any bb w.heap.size A cap qs i d f X (cell_keep hWX HZ.out) (HQ1.out.keep hWX) hm HSQ.out hi hdl) hsml)
  clear hb0 hb1
  go_wp2_with fail
  refine HIX.out.mono ?_
  rintro e w3 ⟨r, rfl, hr, hb3⟩
  have HR := Lib.hid hr
  clear hr
  go_wp2
  go_ret
  exact ⟨ret_bool (by rw [← HR.out]), hb2.trans (hb3.mono hb2.size)⟩

end Go.Proofs.Ytafldjbmheopjaa
