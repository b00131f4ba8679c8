/- impl.JsonWrite, impl.JsonOk. -/
import Derived.Test.YtmmafhibojipjaaDoorJ19
import Derived.Test.YtmmafhibojipjaaDoorJ7
namespace Go.Proofs.YtmmafhibojipjaaDoor
open Go.RowKit Go.Shelf
set_option linter.unusedVariables false
attribute [local go_sem] Oper.semAt_some

theorem own_kept {A B : World} {row : Option Nat} {g : Nat} {t : TypeId} {xs : List Value} (h : Own A g t xs) (hg : A.grownBy B row) (hr : ∀ r, row = some r → ∃ o : Obj, A.heap[r]? = some o ∧ o.isCells = false) : Own B g t xs := by
  refine (hg.block g h.lt (fun e => ?_)).trans h
  obtain ⟨o, ho, hc⟩ := hr g e.symm
  unfold Own at h
  rw [h] at ho; injection ho with ho; subst ho; cases hc

set_option maxRecDepth 100000 in
set_option maxHeartbeats 4000000 in
theorem implWrite_in (k : Int) (f : Bool) (t : ByteArray) (ns : List ByteArray) (kids : List Js) (A K : Option Addr) (ca kc B0 : Nat) (w : World) (hv : JsV w B0 ns kids A K) (hl : LimJ 1048576 (.mk k f t ns kids)) (hle : ns.length ≤ ca) :
    CallsIn Fence.wide 9 Tryd.prog 14 #[.agg #[.int .i64 k, .bool f, .string t, .slice A ns.length ca, .slice K kids.length kc]] w (WritePost (.mk k f t ns kids) w) := by
  obtain ⟨W0, hW0⟩ : ∃ W0, ((w.alloc (.cells #[.int .i64 k, .bool f, .string t, .slice A ns.length ca, .slice K kids.length kc] 26)).alloc (.cells #[.string { data := #[] }] 9)).alloc (.cells #[.int .i64 40] 46) = W0 := ⟨_, rfl⟩
  have HBX : Hid (Below w.heap.size w W0) := by rw [← hW0]; exact ((below_box _).alloc (by simp) _).alloc (by simp; omega) _
  have OA : Hid (Own W0 w.heap.size 26 [.int .i64 k, .bool f, .string t, .slice A ns.length ca, .slice K kids.length kc]) := by
    rw [← hW0]; exact ((Own.new w 26 #[.int .i64 k, .bool f, .string t, .slice A ns.length ca, .slice K kids.length kc]).alloc _).alloc _
  have OR : Hid (Own W0 (w.heap.size + 1) 9 [.string { data := #[] }]) := by
    have h := Own.new (w.alloc (.cells #[.int .i64 k, .bool f, .string t, .slice A ns.length ca, .slice K kids.length kc] 26)) 9 #[.string { data := #[] }]
    rw [World.size_alloc] at h
    rw [← hW0]; exact h.alloc _
  have OC : Hid (Own W0 (w.heap.size + 2) 46 [.int .i64 40]) := by
    have h := Own.new ((w.alloc (.cells #[.int .i64 k, .bool f, .string t, .slice A ns.length ca, .slice K kids.length kc] 26)).alloc (.cells #[.string { data := #[] }] 9)) 46 #[.int .i64 40]
    rw [World.size_alloc, World.size_alloc] at h
    rw [← hW0]; exact h
  have HFT := Lib.hid (fit_all 5 (by omega) k f t ns kids A K ca kc B0 (w.heap.size + 2) 40 1 w W0 hv hl hle HBX.out (by omega) OC.out (by omega) (by omega) (by omega))
  have HV := Lib.hid hv
  have HL := Lib.hid hl
  have HW0 := Lib.hid hW0
  clear hv hl hW0
  have wfn : ∀ k, Fence.wide.fn k := fun _ => trivial
  have wdp : Fence.wide.depth.isSome = false := rfl
  refine callsIn_of_wp_marks Tryd.func14 rfl trivial ?_ rfl
  simp only [Tryd.ntmps14, List.size_toArray, List.length_cons, List.length_nil, Nat.reduceAdd, Nat.reduceSub, Array.replicate_succ, Array.replicate_zero, List.push_toArray, List.append_toArray, List.nil_append, List.cons_append]
  gi_wp2_with fail
  rw [HW0.out]
  refine (callsIn_wide.2 HFT.out).mono ?_
  rintro e w1 ⟨r, L', rfl, p1, p2, p3, p4⟩
  have P1 := Lib.hid p1
  have HX1 := Lib.hid p4
  have O1 := p4.own OA.out (by omega)
  have O2 := p4.own OR.out (by omega)
  have HB1 := Lib.hid (p4.base HBX.out (by omega))
  have k0 : w1.cell? ⟨w.heap.size, 0, none⟩ = some (.int .i64 k) := by rw [O1.cell]; rfl
  have k1 : w1.cell? ⟨w.heap.size, 1, none⟩ = some (.bool f) := by rw [O1.cell]; rfl
  have k2 : w1.cell? ⟨w.heap.size, 2, none⟩ = some (.string t) := by rw [O1.cell]; rfl
  have k3 : w1.cell? ⟨w.heap.size, 3, none⟩ = some (.slice A ns.length ca) := by rw [O1.cell]; rfl
  have k4 : w1.cell? ⟨w.heap.size, 4, none⟩ = some (.slice K kids.length kc) := by rw [O1.cell]; rfl
  have kl := O1.lt
  have r0 : w1.cell? ⟨w.heap.size + 1, 0, none⟩ = some (.string { data := #[] }) := by rw [O2.cell]; rfl
  have rf := O2.frozen 0
  have rl := O2.lt
  have HO1 := Lib.hid O1
  have HO2 := Lib.hid O2
  clear p1 p2 p3 p4 O1 O2 HFT OA OR OC HBX HW0
  simp only [Bool.false_eq_true, if_false]
  obtain ⟨Q, hQ⟩ : ∃ Q : Prop, Q ↔ JsonP (.mk k f t ns kids) := ⟨_, Iff.rfl⟩
  have HQ : Hid (Q ↔ htJ kids + 1 ≤ 5 ∧ JokP (.mk k f t ns kids) ∧ nodesJ kids + 1 ≤ 40 ∧ (jtx (.mk k f t ns kids)).length ≤ 300) := hQ.trans (by unfold JsonP; rw [htJ_mk, nodesJ_mk])
  have HWP : Hid (∀ s w', (Q → bl s = jtx (.mk k f t ns kids)) → (¬ Q → bl s = []) → Below w.heap.size w w' → WritePost (.mk k f t ns kids) w (.returned (.string s)) w') := fun s w' h1 h2 h3 => ⟨s, rfl, fun h => h1 (hQ.2 h), fun h => h2 (fun q => h (hQ.1 q)), h3⟩
  clear hQ
  cases r
  · have HF : Hid (¬ Q) := fun h => by
      have q := HQ.out.1 h
      have := P1.out.2 ⟨⟨q.1, q.2.1⟩, by omega⟩
      cases this
    gi_wp2
    have hc5 := (HO2.out.set_ 0 (.string { data := #[] })).cell 0
    simp only [List.set_cons_zero, List.getElem?_cons_zero] at hc5
    refine ⟨.string ⟨#[]⟩, ?_, HWP.out _ _ (fun h => absurd h HF.out) (fun _ => rfl) (HB1.out.setCell (p := ⟨w.heap.size + 1, 0, none⟩) (by simp) _)⟩
    simp [results, Tryd.f14, go_sem, hc5]
  · have HFIT : Hid ((htJ kids + 1 ≤ 5 ∧ JokP (.mk k f t ns kids)) ∧ nodesJ kids + 1 ≤ 40) := by
      have q : (htJ kids + 1 ≤ 5 ∧ JokP (.mk k f t ns kids)) ∧ ((nodesJ kids + 1 : Nat) : Int) ≤ 40 := by first | exact P1.out.1 rfl | exact P1.out.1 trivial
      exact ⟨q.1, by omega⟩
    have HTX : Hid (((parts (.mk k f t ns kids)).map cl).flatMap (fun x => bl x.1) = jtx (.mk k f t ns kids)) := by
      show _ = _
      rw [cl_flat (parts_small _ _ (Nat.le_refl _) HFIT.out.1.2), parts_txt _ _ (Nat.le_refl _)]
    clear P1 HX1
    gi_wp2_with fail
    refine (callsIn_wide.2 (jsonParts_any k f t ns kids A K ca kc _)).mono ?_
    rintro e w2 ⟨rfl, hw2⟩
    rw [World.size_alloc]
    have HBU : Hid (BUF w1.heap.size w1.heap.size [] w2) := by
      rw [hw2]; exact (BUF.new w1).keep (below_box _)
    have OJ : Hid (Own w2 (w1.heap.size + 1) 26 [.int .i64 k, .bool f, .string t, .slice A ns.length ca, .slice K kids.length kc]) := by
      have h := Own.new (w1.alloc (.cells #[.pointer none, .slice none 0 0] 49)) 26 #[.int .i64 k, .bool f, .string t, .slice A ns.length ca, .slice K kids.length kc]
      rw [World.size_alloc] at h
      rw [hw2]; exact h
    have HB2 : Hid (Below w1.heap.size w1 w2) := by rw [hw2]; exact (below_box _).alloc (by simp) _
    have sz2 : w2.heap.size = w1.heap.size + 2 := by rw [hw2]; simp
    have hwn : w.heap.size + 2 ≤ w1.heap.size := by omega
    have HBW : Hid (Below w.heap.size w w2) := HB1.out.trans (HB2.out.mono (by omega))
    have HR1 : Hid (Own w1 (w.heap.size + 1) 9 [.string { data := #[] }]) := HO2.out
    clear hw2 k0 k1 k2 k3 k4 kl r0 rf rl HO1
    gi_wp2_with fail
    refine wpIn_rangeFunc_ownF rfl (by omega) (gf := 52) (lb := #[.pointer (some ⟨w1.heap.size + 1, 0, none⟩)]) rfl trivial (enters_of Tryd.func52 (by kernel_rfl) rfl)
      (parts_stops 8 w1.heap.size (w1.heap.size + 1) k f t ns kids A K ca kc B0 w w2 HV.out HFIT.out.1.2 HL.out HBW.out (by omega) OJ.out) (fun h1 h2 => ⟨h1.1.trans h2.1, h1.2.trans h2.2⟩)
      (fun W l o o' hl ho hc hw => ⟨belowK_b (w := w2) (by omega) W l o o' hl ho hc hw, KC.put ho hc⟩) (Below.refl _ _) (fun _ => rfl)
      (fun pre W => (BUF w1.heap.size w1.heap.size (pre.flatMap (fun x => bl x.1)) W ∧ (pre.flatMap (fun x => bl x.1)).length ≤ 300) ∧ Below w1.heap.size w1 W)
      (fun c pre W => (c = .ret ∧ 300 < (pre.flatMap (fun x => bl x.1)).length ∧ Own W (w.heap.size + 1) 9 [.string { data := #[] }]) ∧ Below w.heap.size w W)
      (OwnFrom.and (Go.Own.from (fun s A B row hs hg hr => ⟨hs.1.kept hg hr, hs.2⟩) _) (ownFrom_below (by omega) (by omega)))
      (fun c => OwnFrom.and (Go.Own.from (fun s A B row hs hg hr => ⟨hs.1, hs.2.1, own_kept hs.2.2 hg hr⟩) _) (ownFrom_below (by omega) (by omega)))
      ⟨⟨HBU.out, by simp⟩, HB2.out⟩
      (fun x => { tmps := #[.agg #[.int .i64 k, .bool f, .string t, .slice A ns.length ca, .slice K kids.length kc], .pointer (some ⟨w.heap.size, 0, none⟩), .pointer (some ⟨w.heap.size + 1, 0, none⟩), .pointer (some ⟨w.heap.size + 1 + 1, 0, none⟩), .pointer (some ⟨w1.heap.size, 0, none⟩), .string x.1, .agg #[.int .i64 40], .agg #[.int .i64 k, .bool f, .string t, .slice A ns.length ca, .slice K kids.length kc], .bool true, .bool false, .agg #[.int .i64 k, .bool f, .string t, .slice A ns.length ca, .slice K kids.length kc], .func (.func 52) #[] #[.pointer (some ⟨w1.heap.size + 1, 0, none⟩)], .string x.1, undef, undef, undef, undef, undef, undef, undef, undef], defers := [] }) ?assign ?body ?done ?stop
    case assign =>
      intro l x W K hK
      gi_wp2
      exact hK
    case body =>
      rintro l pre x W ⟨⟨hbuf, hlen⟩, hbw⟩ _
      have wfn' : ∀ k, (Fence.wide.inRound l).fn k := fun _ => trivial
      have wdp' : (Fence.wide.inRound l).depth.isSome = false := rfl
      obtain ⟨x, hx⟩ := x
      have hfl : ((pre ++ [(⟨x, hx⟩ : Sub)]).flatMap (fun x => bl x.1)) = pre.flatMap (fun x => bl x.1) ++ bl x := by simp
      have HFL := Lib.hid hfl
      clear hfl
      generalize hg : pre.flatMap (fun x => bl x.1) = g at *
      have hbl := BUF.len w1.heap.size w1.heap.size g W hbuf
      have hWn : w1.heap.size ≤ W.heap.size := by have := hbw.size; omega
      have HLENC := Lib.hid hbl
      clear hbl
      by_cases q : 300 < g.length + x.size
      · have q' : (300 : Int) < (g.length : Int) + (x.size : Int) := by omega
        have hor : Own W (w.heap.size + 1) 9 [.string { data := #[] }] := HR1.out.below hbw (by omega)
        have s0 : W.cell? ⟨w.heap.size + 1, 0, none⟩ = some (.string { data := #[] }) := by rw [hor.cell]; rfl
        have sf := hor.frozen 0
        have sl := hor.lt
        have HPOST : Hid (KeepsOthers W (W.setCell ⟨w.heap.size + 1, 0, none⟩ (.string { data := #[] })) ∧ (300 < ((pre ++ [(⟨x, hx⟩ : Sub)]).flatMap (fun x => bl x.1)).length ∧ Own (W.setCell ⟨w.heap.size + 1, 0, none⟩ (.string { data := #[] })) (w.heap.size + 1) 9 [.string { data := #[] }]) ∧ Below w.heap.size w (W.setCell ⟨w.heap.size + 1, 0, none⟩ (.string { data := #[] }))) :=
          ⟨KeepsOthers.setCell _ _ _, ⟨by rw [HFL.out, List.length_append, ← bl_size]; exact q, hor.set_ 0 _⟩, (HB1.out.trans (hbw.mono (by omega))).setCell (p := ⟨w.heap.size + 1, 0, none⟩) (by simp) _⟩
        clear hg q hor hbuf hbw
        gi_wp2_with (gi_at_call 29; refine (CallsIn.inRound l (callsIn_wide.2 HLENC.out)).mono ?_; rintro e W1 ⟨rfl, rfl⟩)
        exact ⟨HPOST.out.1, ⟨rfl, HPOST.out.2.1.1, HPOST.out.2.1.2⟩, HPOST.out.2.2⟩
      · have q' : ¬ (300 : Int) < (g.length : Int) + (x.size : Int) := by omega
        have HWR := Lib.hid (BUF.write w1.heap.size w1.heap.size g x W hbuf (by omega) hWn)
        have HFIN : Hid (∀ W', BUF w1.heap.size w1.heap.size (g ++ bl x) W' → Below w1.heap.size W W' → Lib.OthersKept 5 (some w1.heap.size) W W' → KeepsOthers W W' ∧ Kp w1.heap.size w.heap.size W W' ∧ (BUF w1.heap.size w1.heap.size ((pre ++ [(⟨x, hx⟩ : Sub)]).flatMap (fun x => bl x.1)) W' ∧ ((pre ++ [(⟨x, hx⟩ : Sub)]).flatMap (fun x => bl x.1)).length ≤ 300) ∧ Below w1.heap.size w1 W') := fun W' h1 h2 h3 =>
          ⟨ko_of hbuf h2.size h3, ⟨h2.mono (by omega), kc_of h3⟩, ⟨by rw [HFL.out]; exact h1, by rw [HFL.out, List.length_append, ← bl_size]; omega⟩, hbw.trans h2⟩
        clear hg q hbuf hbw
        gi_wp2_with (first
          | (gi_at_call 29; refine (CallsIn.inRound l (callsIn_wide.2 HLENC.out)).mono ?_; rintro e W1 ⟨rfl, rfl⟩)
          | (gi_at_call 30; refine (CallsIn.inRound l (callsIn_wide.2 HWR.out)).mono ?_; rintro e W1 ⟨rfl, h1, h2, h3⟩))
        exact HFIN.out _ h1 h2 h3
    case done =>
      rintro D xs W hD rfl ⟨⟨hbuf, hlen⟩, hbw⟩ hK
      rw [HTX.out] at hbuf hlen
      have hWn : w1.heap.size ≤ W.heap.size := by have := hbw.size; omega
      have HST := Lib.hid (BUF.string w1.heap.size w1.heap.size _ W hbuf hWn)
      have HQT : Hid Q := HQ.out.2 ⟨HFIT.out.1.1, HFIT.out.1.2, HFIT.out.2, hlen⟩
      have HBUF := Lib.hid hbuf
      clear hbuf
      have hbw2 := hbw
      clear hbw
      have hDn : w.heap.size ≤ D := by omega
      have hDW : D < W.heap.size := (Array.getElem?_eq_some_iff.1 hK).1
      have HB9 : Hid (Below w.heap.size w W) := HB1.out.trans (hbw2.mono (by omega))
      have HRW : Hid (Own W (w.heap.size + 1) 9 [.string { data := #[] }]) := HR1.out.below hbw2 (by omega)
      clear hbw2
      gi_wp2_with fail
      refine (callsIn_wide.2 HST.out).mono ?_
      rintro e W1 ⟨rfl, hb1, ho1⟩
      have hor : Own W1 (w.heap.size + 1) 9 [.string { data := #[] }] := HRW.out.below hb1 (by omega)
      have s0 : W1.cell? ⟨w.heap.size + 1, 0, none⟩ = some (.string { data := #[] }) := by rw [hor.cell]; rfl
      have sf := hor.frozen 0
      have sl := hor.lt
      have hK1 : W1.heap[D]? = some (Obj.deferred (some [])) := (ko_of HBUF.out hb1.size ho1).same D _ hK rfl
      have HB8 := Lib.hid (HB9.out.trans (hb1.mono (by omega)))
      have HOR := Lib.hid hor
      clear hb1 ho1 hor hK
      gi_wp2
      have hK' := (KeepsOthers.setCell W1 ⟨w.heap.size + 1, 0, none⟩ (.string ⟨(jtx (.mk k f t ns kids)).toArray⟩)).same D _ hK1 rfl
      refine ⟨by simp, .inl ⟨_, _, rfl, run_takeDeferred hK', ?_⟩⟩
      have hc5 := cell_kept (World.cell?_setCell_same' W1 ⟨w.heap.size + 1, 0, none⟩ (.string ⟨(jtx (.mk k f t ns kids)).toArray⟩) (by rw [s0]; rfl)) (grownBy_putObj' _ D (.deferred none)) (fun r e => by cases e; exact ⟨_, hK', rfl⟩)
      refine ⟨.string ⟨(jtx (.mk k f t ns kids)).toArray⟩, ?_, HWP.out _ _ (fun _ => bl_mk _) (fun h => absurd HQT.out h) ((HB8.out.setCell (p := ⟨w.heap.size + 1, 0, none⟩) (by simp) _).trans (belowK_b (w := w) (Nat.le_refl _) _ D _ _ hDn hK' rfl rfl))⟩
      simp [results, Tryd.f14, go_sem, hc5]
    case stop =>
      rintro D c pre W hD hpre ⟨⟨rfl, hlen, hor⟩, hbw⟩ hK
      have HNQ : Hid (¬ Q) := fun h => by
        have q := (HQ.out.1 h).2.2.2
        obtain ⟨t', ht'⟩ := hpre
        rw [← HTX.out, ← ht', List.flatMap_append, List.length_append] at q
        omega
      have s0 : W.cell? ⟨w.heap.size + 1, 0, none⟩ = some (.string { data := #[] }) := by rw [hor.cell]; rfl
      have hDn : w.heap.size ≤ D := by omega
      gi_wp2
      refine ⟨by simp, .inl ⟨_, _, rfl, run_takeDeferred hK, ?_⟩⟩
      have hc5 := cell_kept s0 (grownBy_putObj' _ D (.deferred none)) (fun r e => by cases e; exact ⟨_, hK, rfl⟩)
      refine ⟨.string ⟨#[]⟩, ?_, HWP.out _ _ (fun h => absurd h HNQ.out) (fun _ => rfl) (hbw.trans (belowK_b (w := w) (Nat.le_refl _) W D _ _ hDn hK rfl rfl))⟩
      simp [results, Tryd.f14, go_sem, hc5]


theorem implWrite_any (k : Int) (f : Bool) (t : ByteArray) (ns : List ByteArray) (kids : List Js) (A K : Option Addr) (ca kc B0 : Nat) (w : World) (hv : JsV w B0 ns kids A K) (hl : LimJ 1048576 (.mk k f t ns kids)) (hle : ns.length ≤ ca) :
    Calls Tryd.prog 14 #[.agg #[.int .i64 k, .bool f, .string t, .slice A ns.length ca, .slice K kids.length kc]] w (WritePost (.mk k f t ns kids) w) :=
  callsIn_wide.1 (implWrite_in k f t ns kids A K ca kc B0 w hv hl hle)

set_option maxRecDepth 100000 in
theorem implOk_any (k : Int) (f : Bool) (t : ByteArray) (ns : List ByteArray) (kids : List Js) (A K : Option Addr) (ca kc B0 : Nat) (w : World) (hv : JsV w B0 ns kids A K) (hl : LimJ 1048576 (.mk k f t ns kids)) (hle : ns.length ≤ ca) :
    Calls Tryd.prog 15 #[.agg #[.int .i64 k, .bool f, .string t, .slice A ns.length ca, .slice K kids.length kc]] w (BoolPost (JsonP (.mk k f t ns kids)) w) := by
  have hbx : Below w.heap.size w (w.alloc (.cells #[.int .i64 k, .bool f, .string t, .slice A ns.length ca, .slice K kids.length kc] 26)) := below_box _
  have HC := Lib.hid (implWrite_any k f t ns kids A K ca kc B0 _ (hv.keep hbx) hl hle)
  have HBX := Lib.hid hbx
  clear hv hl hbx
  go_enter Tryd.func15, Tryd.ntmps15
  go_wp2_with fail
  refine HC.out.mono ?_
  rintro e w1 ⟨s, rfl, h1, h2, hb⟩
  have HB := Lib.hid (HBX.out.trans (hb.mono HBX.out.size))
  have HI : Hid ((!s.toList.isEmpty) = true ↔ JsonP (.mk k f t ns kids)) := by
    show _ ↔ _
    rw [ByteArray.toList_eq]
    change (!(bl s).isEmpty) = true ↔ _
    by_cases q : JsonP (.mk k f t ns kids)
    · have := jtx_pos q.2.1.one
      rw [← h1 q] at this
      have hs : bl s ≠ [] := fun e => by rw [e] at this; simp at this
      simp [hs, q]
    · rw [h2 q]
      simp [q]
  clear hb h1 h2 HC
  go_wp2
  go_ret
  exact ⟨_, rfl, HI.out, HB.out⟩

end Go.Proofs.YtmmafhibojipjaaDoor
