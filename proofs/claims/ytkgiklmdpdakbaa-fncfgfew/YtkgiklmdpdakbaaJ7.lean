/- The specification's maker of productions: the kids of a sequence, one behind the other. -/
import Derived.Test.YtkgiklmdpdakbaaZ7
namespace Go.Proofs.Ytkgiklmdpdakbaa
open Go.RowKit
set_option linter.unusedVariables false

set_option maxRecDepth 100000 in
set_option maxHeartbeats 2000000 in
theorem bodySeq_any (w0 : World) (mb : Nat) (rs : List Ru) (rv : Value) (n : Nat) (L : Lv) (hL : LvOk rs n L) (IH : OneIH w0 mb rs rv n L) (t : ByteArray) (lo hi : List Int) (kids : List Pt) (mn mx : Int) (A B K : Option Addr) (ca cb kc : Nat) (s : Mk) (Al : Option Addr) (cap : Nat) (xs : List Pv) (w : World)
    (ha : Ask w0 rs (n + 1) 4 t lo hi kids mn mx A B K) (hr : HRoom s (nodesL kids + 1)) (hk : MK w0 mb rv s Al cap xs w) :
    Calls Try.prog 70 #[.pointer (some ⟨mb, 0, none⟩), .agg #[.int .i64 4, .string t, .slice A lo.length ca, .slice B hi.length cb, .slice K kids.length kc, .int .i64 mn, .int .i64 mx]] w (BodyPost w0 mb rv xs (seqB L kids s) w) := by
  obtain ⟨i0, hi0, hz0, hz1, hz2⟩ := info_parts info46
  have HI := Lib.hid (And.intro hi0 (And.intro hz0 (And.intro hz1 hz2)))
  clear hi0 hz0 hz1 hz2
  have HIH := Lib.hid IH
  have HLV := Lib.hid hL
  have HA := Lib.hid ha
  have HR := Lib.hid hr
  have HKK := Lib.hid ha.kids
  have hkl : kids.length ≤ 1048576 := by have h4 := ha.lim; cases h4 with | mk _ _ _ _ _ _ _ _ _ _ h _ => exact h
  have HBX := Lib.hid (below_box (w := w) (.cells #[.int .i64 4, .string t, .slice A lo.length ca, .slice B hi.length cb, .slice K kids.length kc, .int .i64 mn, .int .i64 mx] 88))
  have OB : Hid (Own (w.alloc (.cells #[.int .i64 4, .string t, .slice A lo.length ca, .slice B hi.length cb, .slice K kids.length kc, .int .i64 mn, .int .i64 mx] 88)) w.heap.size 88 [.int .i64 4, .string t, .slice A lo.length ca, .slice B hi.length cb, .slice K kids.length kc, .int .i64 mn, .int .i64 mx]) := Own.new w 88 _
  have HM := Lib.hid (hk.keep HBX.out)
  have HSZ : Hid ((w.alloc (.cells #[.int .i64 4, .string t, .slice A lo.length ca, .slice B hi.length cb, .slice K kids.length kc, .int .i64 mn, .int .i64 mx] 88)).heap.size = w.heap.size + 1) := by show _ = _; simp
  clear IH hL ha hr hk
  go_enter Try.func70, Try.ntmps70
  go_wp2_with fail
  generalize w.alloc (.cells #[.int .i64 4, .string t, .slice A lo.length ca, .slice B hi.length cb, .slice K kids.length kc, .int .i64 mn, .int .i64 mx] 88) = W at *
  go_loopw [5, 7] (fun o i wr => ∃ j : Nat, j ≤ kids.length ∧ i = .int .i64 j ∧ (∃ D cp, o = .slice D (seqB L (kids.take j) s).1.length cp ∧ Hid (wr.ownsRow W.heap.size 49 3 (.slice D (seqB L (kids.take j) s).1.length cp) (seqB L (kids.take j) s).1.length (symCells (seqB L (kids.take j) s).1)) ∧ ∃ A' cap' zs, Hid (MkP w0 mb rv xs W (seqB L (kids.take j) s).2 A' cap' zs wr) ∧ Hid (∀ z ∈ zs, ∀ b, z.sl.ownBlock = some b → (Value.slice D (seqB L (kids.take j) s).1.length cp).ownBlock ≠ some b))) (fun _ i _ => kids.length - (intOf i).toNat)
  case atStart =>
    refine ⟨0, Nat.zero_le _, rfl, _, _, rfl, ?_, Al, cap, [], ?_, fun z hz => by simp at hz⟩
    · have := own_empty W 49 3 W.heap.size (Nat.le_refl _)
      rw [HSZ.out] at this ⊢
      exact this
    · exact .below HM.out (below_box _)
  case round =>
    obtain ⟨j, hj, rfl, D, cp, rfl, HROW, A1, c1, zs, HMP, HAP⟩ := hrel
    have x4 : wr.cell? ⟨w.heap.size, 4, none⟩ = some (.slice K kids.length kc) := ((HMP.out.f.own HM.out.o OB.out (by decide) (by decide)).cell 4).trans rfl
    by_cases hlt : j < kids.length
    · have hlt' : (j : Int) < (kids.length : Int) := by omega
      obtain ⟨b, off, rfl, qk, qt, ql, qh, qkids, qn, qx, QA, QB, QK, qa, qb, qc, EQ, hc, hask⟩ := HA.out.kid hlt
      obtain ⟨hroom, hlen⟩ := HR.out.seq HLV.out HKK.out hlt
      have NXT := Lib.hid (seqB_take L kids s j hlt)
      have HEQ := Lib.hid EQ
      rw [EQ] at hroom
      have HROOM := Lib.hid hroom
      have HASK := Lib.hid hask
      have BW := HMP.out.k.b
      obtain ⟨p0, p1, p2, p3, p4, p5, p6⟩ := hc
      replace p0 := cell_keep BW p0
      replace p1 := cell_keep BW p1
      replace p2 := cell_keep BW p2
      replace p3 := cell_keep BW p3
      replace p4 := cell_keep BW p4
      replace p5 := cell_keep BW p5
      replace p6 := cell_keep BW p6
      clear EQ hroom hask BW
      generalize hrj : seqB L (kids.take j) s = rj at *
      have HRJ := Lib.hid hrj
      clear hrj
      by_cases hk1 : qk = 1
      · subst hk1
        have hqt : 1 ≤ qt.size ∧ qt.size ≤ 20 := by
          have h3 := HASK.out.ok
          cases h3 with
          | mk _ _ _ _ _ _ _ ha2 _ =>
          rcases ha2.2 with h | h | h | h | h | h
          · exact ⟨h.2.1, h.2.2.1⟩
          all_goals omega
        have HST : Hid (seqB L (kids.take (j + 1)) s = (rj.1 ++ textSy qt, rj.2)) := by
          show _ = _
          rw [NXT.out, HEQ.out]
          rfl
        have HTX := Lib.hid (bodyText_any qt ql qh qkids qn qx QA QB QK qa qb qc mb wr (by omega))
        have htl := textSy_length qt
        have HTL : Hid ((textSy qt).length ≤ 20) := by show _ ≤ _; omega
        have HT1 : Hid (0 < (textSy qt).length) := by show _ < _; omega
        clear htl hqt
        go_wp2_with fail
        refine HTX.out.mono ?_
        rintro e w2 ⟨K2, c2, rfl, ho2, hb2⟩
        obtain ⟨g2, c2', e2, hg2, _⟩ := own_some ho2 HT1.out
        injection e2 with e2 _ e3
        subst e2 e3
        have HO2 := Lib.hid ho2
        have HRO2 := Lib.hid (own_keep HROW.out hb2)
        have HMP2 := Lib.hid (HMP.out.then_ hb2)
        have htl20 := HTL.out
        have hwW : W.heap.size ≤ w2.heap.size := HMP2.out.f.size
        have HWW : Hid (w0.heap.size ≤ W.heap.size) := HM.out.b.size
        clear ho2 hb2 HROW HMP x4 p0 p1 p2 p3 p4 p5 p6 HTX
        go_wp2_with (at_builtin; refine wpList_append_own_at _ rfl _ _ 44 rfl W.heap.size 49 i0 (.agg #[.int .i64 0, .int .i64 0, .int .i64 0]) 3 24 Try.underlying44 HI.out.1 HI.out.2.1 HI.out.2.2.1 HI.out.2.2.2 rfl (by decide) _ _ (symCells rj.1) rfl HRO2.out ⟨g2, 0, none⟩ (textSy qt).length c2 (symCells (textSy qt)) rfl (symCells_length _) ?c1 ?c2 ?c3 ?c4 ?c5 ?_)
        case c1 => exact Row.news (own_rowN HO2.out)
        case c2 => exact symCells_one _
        case c3 => unfold maxLen; omega
        case c4 => omega
        case c5 => exact hwW
        intro v' w4 hown' hgrow _ hblk
        obtain ⟨A', cap', rfl⟩ := own_form hown'
        have HMP4 := Lib.hid (HMP2.out.grow HRO2.out HAP.out HM.out.low HWW.out hgrow)
        have HAP4 := Lib.hid (apart_grow HAP.out (fun z hz b hb => HMP2.out.k.low z (List.mem_append_right _ hz) b hb) hblk)
        have HLEN : Hid ((seqB L (kids.take (j + 1)) s).1.length = rj.1.length + (textSy qt).length) := by show _ = _; rw [HST.out]; simp
        have HS1 : Hid ((seqB L (kids.take (j + 1)) s).2 = rj.2) := by show _ = _; rw [HST.out]
        have HRO4 : Hid (w4.ownsRow W.heap.size 49 3 (.slice A' (rj.1.length + (textSy qt).length) cap') (rj.1.length + (textSy qt).length) (symCells (seqB L (kids.take (j + 1)) s).1)) := by
          show w4.ownsRow _ _ _ _ _ _
          rw [HST.out, symCells_append]
          exact hown'
        clear hown' hgrow hblk HRO2 HMP2 HAP HO2 HST
        go_wp2
        go_roundw
        case rel => exact ⟨j + 1, by omega, by go_num, A', cap', by rw [HLEN.out], by rw [HLEN.out]; exact HRO4, A1, c1, zs, by rw [HS1.out]; exact HMP4, by rw [HLEN.out]; exact HAP4⟩
        case measure => simp [intOf]; omega
      · have hk1' : ¬ qk = 1 := hk1
        have HST : Hid (seqB L (kids.take (j + 1)) s = (rj.1 ++ [(L.one (.mk qk qt ql qh qkids qn qx) rj.2).1], (L.one (.mk qk qt ql qh qkids qn qx) rj.2).2)) := by
          show _ = _
          rw [NXT.out, HEQ.out]
          unfold seqStep
          rw [if_neg (show ¬ (Pt.mk qk qt ql qh qkids qn qx).kind = 1 from hk1)]
        have HC := Lib.hid (HIH.out qk qt ql qh qkids qn qx QA QB QK qa qb qc rj.2 A1 c1 (xs ++ zs) wr HASK.out HROOM.out HMP.out.k)
        have hkb : (qk == 1) = false := by simp [hk1]
        clear hk1 hk1'
        generalize L.one (.mk qk qt ql qh qkids qn qx) rj.2 = o2 at *
        go_wp2_with fail
        refine HC.out.mono ?_
        rintro e w2 ⟨rfl, A2, c2, z2, hp2⟩
        have HRO2 := Lib.hid (hp2.f.row HMP.out.k.o HROW.out)
        have HMP2 := Lib.hid (HMP.out.trans hp2)
        have HAP2 : Hid (∀ z ∈ zs ++ z2, ∀ b, z.sl.ownBlock = some b → (Value.slice D rj.1.length cp).ownBlock ≠ some b) := fun z hz b hb e => by
          rcases List.mem_append.1 hz with hz | hz
          · exact HAP.out z hz b hb e
          · have := hp2.n z hz b hb
            have := (HROW.out.lt b e).2
            omega
        have hwW : W.heap.size ≤ w2.heap.size := HMP2.out.f.size
        have HWW : Hid (w0.heap.size ≤ W.heap.size) := HM.out.b.size
        have HB3 := Lib.hid (below_box (w := w2) (.cells #[.int .i64 o2.1.head, .int .i64 o2.1.low, .int .i64 o2.1.high] 49))
        have HRO3 := Lib.hid (own_keep HRO2.out HB3.out)
        have HMP3 := Lib.hid (HMP2.out.then_ HB3.out)
        clear hp2 HROW HMP x4 p0 p1 p2 p3 p4 p5 p6 HC HAP
        go_wp2_with (at_builtin; refine wpList_append_own_at _ rfl _ _ 44 rfl W.heap.size 49 i0 (.agg #[.int .i64 0, .int .i64 0, .int .i64 0]) 3 24 Try.underlying44 HI.out.1 HI.out.2.1 HI.out.2.2.1 HI.out.2.2.2 rfl (by decide) _ _ (symCells rj.1) rfl HRO3.out ⟨w2.heap.size, 0, none⟩ 1 1 [.int .i64 o2.1.head, .int .i64 o2.1.low, .int .i64 o2.1.high] rfl rfl (new3 w2 _ _ _) ?c2 ?c3 ?c4 ?c5 ?_)
        case c2 => intro u hu; simp at hu; rcases hu with rfl | rfl | rfl <;> rfl
        case c3 => unfold maxLen; omega
        case c4 => omega
        case c5 => simp; omega
        intro v' w4 hown' hgrow _ hblk
        obtain ⟨A', cap', rfl⟩ := own_form hown'
        have HMP4 := Lib.hid (HMP3.out.grow HRO3.out HAP2.out HM.out.low HWW.out hgrow)
        have HAP4 := Lib.hid (apart_grow HAP2.out (fun z hz b hb => HMP3.out.k.low z (List.mem_append_right _ hz) b hb) (by rw [World.size_alloc]; exact hblk))
        have HLEN : Hid ((seqB L (kids.take (j + 1)) s).1.length = rj.1.length + 1) := by show _ = _; rw [HST.out]; simp
        have HS1 : Hid ((seqB L (kids.take (j + 1)) s).2 = o2.2) := by show _ = _; rw [HST.out]
        have HRO4 : Hid (w4.ownsRow W.heap.size 49 3 (.slice A' (rj.1.length + 1) cap') (rj.1.length + 1) (symCells (seqB L (kids.take (j + 1)) s).1)) := by
          show w4.ownsRow _ _ _ _ _ _
          rw [HST.out, symCells_append]
          exact hown'
        clear hown' hgrow hblk HRO2 HMP2 HAP2 HST HRO3 HMP3
        go_wp2
        go_roundw
        case rel => exact ⟨j + 1, by omega, by go_num, A', cap', by rw [HLEN.out], by rw [HLEN.out]; exact HRO4, A2, c2, zs ++ z2, by rw [HS1.out]; exact HMP4, by rw [HLEN.out]; exact HAP4⟩
        case measure => simp [intOf]; omega
    · have hlt' : ¬ (j : Int) < (kids.length : Int) := by omega
      have FIN : Hid (BodyPost w0 mb rv xs (seqB L kids s) w (.returned (.slice D (seqB L (kids.take j) s).1.length cp)) wr) := by
        have e : kids.take j = kids := List.take_of_length_le (by omega)
        rw [e] at HROW HMP HAP ⊢
        exact ⟨D, cp, rfl, own_base HROW.out HBX.out.size, A1, c1, zs, .after HBX.out HMP.out, HAP.out⟩
      clear HROW HMP HAP
      go_wp2
      go_ret
      exact FIN.out

end Go.Proofs.Ytkgiklmdpdakbaa

/- The specification's maker of productions: a body of one symbol; a head of one body. -/
namespace Go.Proofs.Ytkgiklmdpdakbaa
open Go.RowKit
set_option linter.unusedVariables false

set_option maxRecDepth 100000 in
set_option maxHeartbeats 2000000 in
theorem bodyRest_any (w0 : World) (mb : Nat) (rv : Value) (k : Int) (hk1 : k ≠ 1) (hk4 : k ≠ 4) (t : ByteArray) (lo hi : List Int) (kids : List Pt) (mn mx : Int) (A B K : Option Addr) (ca cb kc : Nat) (s : Mk) (Al : Option Addr) (cap : Nat) (xs : List Pv) (r : Sy × Mk) (w : World)
    (hk : MK w0 mb rv s Al cap xs w)
    (hone : ∀ X, MK w0 mb rv s Al cap xs X → Calls Try.prog 82 #[.pointer (some ⟨mb, 0, none⟩), .agg #[.int .i64 k, .string t, .slice A lo.length ca, .slice B hi.length cb, .slice K kids.length kc, .int .i64 mn, .int .i64 mx]] X (OnePost w0 mb rv xs r X)) :
    Calls Try.prog 70 #[.pointer (some ⟨mb, 0, none⟩), .agg #[.int .i64 k, .string t, .slice A lo.length ca, .slice B hi.length cb, .slice K kids.length kc, .int .i64 mn, .int .i64 mx]] w (BodyPost w0 mb rv xs ([r.1], r.2) w) := by
  obtain ⟨i0, hi0, hz0, hz1, hz2⟩ := info_parts info46
  have HI := Lib.hid (And.intro hi0 (And.intro hz0 (And.intro hz1 hz2)))
  clear hi0 hz0 hz1 hz2
  have h1 : (k == 1) = false := by simp [hk1]
  have h4 : (k == 4) = false := by simp [hk4]
  have HBX := Lib.hid (below_box (w := w) (.cells #[.int .i64 k, .string t, .slice A lo.length ca, .slice B hi.length cb, .slice K kids.length kc, .int .i64 mn, .int .i64 mx] 88))
  have HSZ : Hid ((w.alloc (.cells #[.int .i64 k, .string t, .slice A lo.length ca, .slice B hi.length cb, .slice K kids.length kc, .int .i64 mn, .int .i64 mx] 88)).heap.size = w.heap.size + 1) := by show _ = _; simp
  have HM := Lib.hid (hk.keep HBX.out)
  have HONE := Lib.hid hone
  have hw0 : w0.heap.size ≤ w.heap.size := hk.b.size
  have OB := Lib.hid (Own.new w 88 #[.int .i64 k, .string t, .slice A lo.length ca, .slice B hi.length cb, .slice K kids.length kc, .int .i64 mn, .int .i64 mx])
  clear hone hk hk1 hk4
  go_enter Try.func70, Try.ntmps70
  go_upto_region 17 with fail
  generalize hW : w.alloc (.cells #[.int .i64 k, .string t, .slice A lo.length ca, .slice B hi.length cb, .slice K kids.length kc, .int .i64 mn, .int .i64 mx] 88) = W at *
  have HE := Lib.hid (below_box (w := W) (.cells #[] 49))
  have HROW := own_empty W 49 3 W.heap.size (Nat.le_refl _)
  rw [HSZ.out] at HROW
  have HRO1 := Lib.hid HROW
  have HM1 := Lib.hid (HM.out.keep HE.out)
  have HLOW := Lib.hid HM.out.low
  have OB1 := (OB.out.keep HE.out)
  have y0 := (OB1.cell 0).trans rfl
  have y1 := (OB1.cell 1).trans rfl
  have y2 := (OB1.cell 2).trans rfl
  have y3 := (OB1.cell 3).trans rfl
  have y4 := (OB1.cell 4).trans rfl
  have y5 := (OB1.cell 5).trans rfl
  have y6 := (OB1.cell 6).trans rfl
  simp only [List.getElem?_cons_zero, List.getElem?_cons_succ] at y0 y1 y2 y3 y4 y5 y6
  have HS2 : Hid ((W.alloc (.cells #[] 49)).heap.size = w.heap.size + 2) := by show _ = _; rw [World.size_alloc, HSZ.out]
  clear HROW OB1 OB HM hW
  go_wp2_with fail
  refine (HONE.out _ HM1.out).mono ?_
  rintro e w2 ⟨rfl, A2, c2, z2, hp2⟩
  have HRO2 := Lib.hid (hp2.f.row HM1.out.o HRO1.out)
  have HAP2 : Hid (∀ z ∈ z2, ∀ b, z.sl.ownBlock = some b → (Value.slice (some ⟨w.heap.size + 1, 0, none⟩) 0 0).ownBlock ≠ some b) := fun z hz b hb e => by
    have := hp2.n z hz b hb
    have h3 := HS2.out
    have : w.heap.size + 1 = b := by simpa [Value.ownBlock] using e
    omega
  have HMP2 := Lib.hid (MkP.after HE.out hp2)
  have hwW : W.heap.size ≤ w2.heap.size := HMP2.out.f.size
  have HWW : Hid (w0.heap.size ≤ W.heap.size) := by have := HSZ.out; show _ ≤ _; omega
  have HB3 := Lib.hid (below_box (w := w2) (.cells #[.int .i64 r.1.head, .int .i64 r.1.low, .int .i64 r.1.high] 49))
  have HRO3 := Lib.hid (own_keep HRO2.out HB3.out)
  have HMP3 := Lib.hid (HMP2.out.then_ HB3.out)
  have HS3 := Lib.hid HSZ.out
  have hwW2 : w.heap.size + 1 ≤ w2.heap.size := by have := HSZ.out; omega
  clear hp2 y0 y1 y2 y3 y4 y5 y6
  go_wp2_with (at_builtin; refine wpList_append_own_at _ rfl _ _ 44 rfl (w.heap.size + 1) 49 i0 (.agg #[.int .i64 0, .int .i64 0, .int .i64 0]) 3 24 Try.underlying44 HI.out.1 HI.out.2.1 HI.out.2.2.1 HI.out.2.2.2 rfl (by decide) _ _ (symCells []) rfl HRO3.out ⟨w2.heap.size, 0, none⟩ 1 1 [.int .i64 r.1.head, .int .i64 r.1.low, .int .i64 r.1.high] rfl rfl (new3 w2 _ _ _) ?c2 ?c3 ?c4 ?c5 ?_)
  case c2 => intro u hu; simp at hu; rcases hu with rfl | rfl | rfl <;> rfl
  case c3 => unfold maxLen; omega
  case c4 => omega
  case c5 => simp; omega
  intro v' w4 hown' hgrow _ hblk
  obtain ⟨A', cap', rfl⟩ := own_form hown'
  have HRO3' : Hid ((w2.alloc (.cells #[.int .i64 r.1.head, .int .i64 r.1.low, .int .i64 r.1.high] 49)).ownsRow W.heap.size 49 3 (.slice (some ⟨w.heap.size + 1, 0, none⟩) 0 0) 0 []) := by
    show World.ownsRow _ _ _ _ _ _ _
    rw [HSZ.out]
    exact HRO3.out
  have HMP4 := Lib.hid (HMP3.out.grow HRO3'.out HAP2.out HLOW.out HWW.out hgrow)
  have HAP4 := Lib.hid (apart_grow HAP2.out (fun z hz b hb => HMP3.out.k.low z (List.mem_append_right _ hz) b hb) (by rw [World.size_alloc]; exact hblk))
  have FIN : Hid (BodyPost w0 mb rv xs ([r.1], r.2) w (.returned (.slice A' 1 cap')) w4) :=
    ⟨A', cap', rfl, own_base hown' (by omega), A2, c2, z2, .after HBX.out HMP4.out, HAP4.out⟩
  clear hown' hgrow hblk HRO2 HMP2 HAP2 HRO3 HMP3 HRO3'
  go_wp2
  go_ret
  exact FIN.out

end Go.Proofs.Ytkgiklmdpdakbaa

/- The specification's maker of productions: a head of one body; a head of several. -/
namespace Go.Proofs.Ytkgiklmdpdakbaa
open Go.RowKit
set_option linter.unusedVariables false

theorem MkP.putx {w0 w w1 w2 : World} {mb c1 c2 : Nat} {rv : Value} {s1 s2 : Mk} {A1 A2 : Option Addr} {xs zs : List Pv} {x : Pv} (hp : MkP w0 mb rv xs w s1 A1 c1 zs w1) (hm : MK w0 mb rv s2 A2 c2 (xs ++ zs ++ [x]) w2) (hf : MF w0.heap.size mb w1 w2) (hx : ∀ b, x.sl.ownBlock = some b → w.heap.size ≤ b) : MkP w0 mb rv xs w s2 A2 c2 (zs ++ [x]) w2 := by
  refine ⟨by rw [← List.append_assoc]; exact hm, hp.f.trans hf, fun z hz b hb => ?_⟩
  rcases List.mem_append.1 hz with hz | hz
  · exact hp.n z hz b hb
  · rw [List.mem_singleton] at hz
    subst hz
    exact hx b hb
/-- A new row is none of those that were there, nor of those made meanwhile. -/
theorem apart_all {w : World} {v : Value} {xs zs : List Pv} (hlow : ∀ x ∈ xs, ∀ b, x.sl.ownBlock = some b → b < w.heap.size) (hv : ∀ b, v.ownBlock = some b → w.heap.size ≤ b) (hap : ∀ z ∈ zs, ∀ b, z.sl.ownBlock = some b → v.ownBlock ≠ some b) :
    ∀ i (hi : i < (xs ++ zs).length) b, (xs ++ zs)[i].sl.ownBlock = some b → v.ownBlock ≠ some b := by
  intro i hi b hb e
  rcases List.mem_append.1 (List.getElem_mem hi) with h | h
  · have := hlow _ h b hb
    have := hv b e
    omega
  · exact hap _ h b hb e

set_option maxRecDepth 100000 in
set_option maxHeartbeats 2000000 in
theorem headRest_any (w0 : World) (mb : Nat) (rv : Value) (k : Int) (hk5 : k ≠ 5) (hk2 : k ≠ 2) (hk6 : k ≠ 6) (h : Nat) (t : ByteArray) (lo hi : List Int) (kids : List Pt) (mn mx : Int) (A B K : Option Addr) (ca cb kc : Nat) (s : Mk) (Al : Option Addr) (cap : Nat) (xs : List Pv) (r : List Sy × Mk) (w : World)
    (hk : MK w0 mb rv s Al cap xs w) (hroom : r.2.list.length ≤ 1000000)
    (hbody : ∀ X, MK w0 mb rv s Al cap xs X → Calls Try.prog 70 #[.pointer (some ⟨mb, 0, none⟩), .agg #[.int .i64 k, .string t, .slice A lo.length ca, .slice B hi.length cb, .slice K kids.length kc, .int .i64 mn, .int .i64 mx]] X (BodyPost w0 mb rv xs r X)) :
    Calls Try.prog 50 #[.pointer (some ⟨mb, 0, none⟩), .int .i64 (h : Int), .agg #[.int .i64 k, .string t, .slice A lo.length ca, .slice B hi.length cb, .slice K kids.length kc, .int .i64 mn, .int .i64 mx]] w (HeadPost w0 mb rv xs (r.2.put h r.1) w) := by
  have h5 : (k == 5) = false := by simp [hk5]
  have h2 : (k == 2) = false := by simp [hk2]
  have h6 : (k == 6) = false := by simp [hk6]
  have HBX := Lib.hid (below_box (w := w) (.cells #[.int .i64 k, .string t, .slice A lo.length ca, .slice B hi.length cb, .slice K kids.length kc, .int .i64 mn, .int .i64 mx] 88))
  have HM := Lib.hid (hk.keep HBX.out)
  have HBO := Lib.hid hbody
  have hw0 : w0.heap.size ≤ w.heap.size := hk.b.size
  clear hbody hk hk5 hk2 hk6
  go_enter Try.func50, Try.ntmps50
  go_wp2_with fail
  refine (HBO.out _ HM.out).mono ?_
  rintro e w2 ⟨K2, c2, rfl, ho2, A2, cp2, z2, hp2, hap2⟩
  have hsz := HBX.out.size
  have HP := Lib.hid (put_any h r.1 K2 c2 w0 mb rv r.2 A2 cp2 (xs ++ z2) w2 hp2.k hroom (own_base ho2 (by omega)) (apart_all HM.out.low (fun b hb => (ho2.lt b hb).1) hap2))
  have HX : Hid (∀ b, (⟨⟨(h : Int), r.1⟩, K2, c2⟩ : Pv).sl.ownBlock = some b → (w.alloc (.cells #[.int .i64 k, .string t, .slice A lo.length ca, .slice B hi.length cb, .slice K kids.length kc, .int .i64 mn, .int .i64 mx] 88)).heap.size ≤ b) := fun b hb => (ho2.lt b hb).1
  have HP2 := Lib.hid hp2
  clear hp2 hap2 ho2
  go_wp2_with fail
  refine HP.out.mono ?_
  rintro e w3 ⟨rfl, A3, c3, hm3, hf3⟩
  have FIN := Lib.hid (MkP.after HBX.out (HP2.out.putx hm3 hf3 HX.out))
  clear hm3 hf3
  go_wp2
  refine bodyPost_end (results_none rfl _ _ _) rfl ?_
  exact ⟨rfl, A3, c3, _, FIN.out⟩

set_option maxRecDepth 100000 in
set_option maxHeartbeats 2000000 in
theorem headAlt_any (w0 : World) (mb : Nat) (rs : List Ru) (rv : Value) (n : Nat) (L : Lv) (hL : LvOk rs n L) (IH : BodyIH w0 mb rs rv n L) (h : Nat) (t : ByteArray) (lo hi : List Int) (kids : List Pt) (mn mx : Int) (A B K : Option Addr) (ca cb kc : Nat) (s : Mk) (Al : Option Addr) (cap : Nat) (xs : List Pv) (w : World)
    (ha : Ask w0 rs (n + 1) 5 t lo hi kids mn mx A B K) (hr : HRoom s (nodesL kids + 1)) (hk : MK w0 mb rv s Al cap xs w) :
    Calls Try.prog 50 #[.pointer (some ⟨mb, 0, none⟩), .int .i64 (h : Int), .agg #[.int .i64 5, .string t, .slice A lo.length ca, .slice B hi.length cb, .slice K kids.length kc, .int .i64 mn, .int .i64 mx]] w (HeadPost w0 mb rv xs (altB L h kids s) w) := by
  have HIH := Lib.hid IH
  have HLV := Lib.hid hL
  have HA := Lib.hid ha
  have HR := Lib.hid hr
  have HKK := Lib.hid ha.kids
  have hkl : kids.length ≤ 1048576 := by have h4 := ha.lim; cases h4 with | mk _ _ _ _ _ _ _ _ _ _ h _ => exact h
  have HBX := Lib.hid (below_box (w := w) (.cells #[.int .i64 5, .string t, .slice A lo.length ca, .slice B hi.length cb, .slice K kids.length kc, .int .i64 mn, .int .i64 mx] 88))
  have OB : Hid (Own (w.alloc (.cells #[.int .i64 5, .string t, .slice A lo.length ca, .slice B hi.length cb, .slice K kids.length kc, .int .i64 mn, .int .i64 mx] 88)) w.heap.size 88 [.int .i64 5, .string t, .slice A lo.length ca, .slice B hi.length cb, .slice K kids.length kc, .int .i64 mn, .int .i64 mx]) := Own.new w 88 _
  have HM := Lib.hid (hk.keep HBX.out)
  have hw0 : w0.heap.size ≤ w.heap.size := hk.b.size
  have HSZ : Hid ((w.alloc (.cells #[.int .i64 5, .string t, .slice A lo.length ca, .slice B hi.length cb, .slice K kids.length kc, .int .i64 mn, .int .i64 mx] 88)).heap.size = w.heap.size + 1) := by show _ = _; simp
  clear IH hL ha hr hk
  go_enter Try.func50, Try.ntmps50
  go_wp2_with fail
  generalize w.alloc (.cells #[.int .i64 5, .string t, .slice A lo.length ca, .slice B hi.length cb, .slice K kids.length kc, .int .i64 mn, .int .i64 mx] 88) = W at *
  go_loopw [6] (fun i wr => ∃ j : Nat, j ≤ kids.length ∧ i = .int .i64 j ∧ ∃ A' cap' zs, Hid (MkP w0 mb rv xs W (altB L h (kids.take j) s) A' cap' zs wr)) (fun i _ => kids.length - (intOf i).toNat)
  case atStart => exact ⟨0, Nat.zero_le _, rfl, Al, cap, [], .refl HM.out⟩
  case round =>
    obtain ⟨j, hj, rfl, A1, c1, zs, HMP⟩ := hrel
    have x4 : wr.cell? ⟨w.heap.size, 4, none⟩ = some (.slice K kids.length kc) := ((HMP.out.f.own HM.out.o OB.out (by decide) (by decide)).cell 4).trans rfl
    by_cases hlt : j < kids.length
    · have hlt' : (j : Int) < (kids.length : Int) := by omega
      obtain ⟨b, off, rfl, qk, qt, ql, qh, qkids, qn, qx, QA, QB, QK, qa, qb, qc, EQ, hc, hask⟩ := HA.out.kid hlt
      have hroom := HR.out.alt HLV.out (h := h) HKK.out hlt
      have NXT := Lib.hid (altB_take L h kids s j hlt)
      have BW := HMP.out.k.b
      obtain ⟨p0, p1, p2, p3, p4, p5, p6⟩ := hc
      replace p0 := cell_keep BW p0
      replace p1 := cell_keep BW p1
      replace p2 := cell_keep BW p2
      replace p3 := cell_keep BW p3
      replace p4 := cell_keep BW p4
      replace p5 := cell_keep BW p5
      replace p6 := cell_keep BW p6
      generalize hrj : altB L h (kids.take j) s = rj at *
      rw [EQ] at hroom
      have hokq : Pt.ht (.mk qk qt ql qh qkids qn qx) ≤ n ∧ OkP rs (.mk qk qt ql qh qkids qn qx) := by rw [← EQ]; exact HKK.out _ (List.getElem_mem hlt)
      have HFEW := Lib.hid (HLV.out.body (.mk qk qt ql qh qkids qn qx) rj hokq.1 hokq.2)
      have HC := Lib.hid (HIH.out qk qt ql qh qkids qn qx QA QB QK qa qb qc rj A1 c1 (xs ++ zs) wr hask hroom HMP.out.k)
      have HRM := Lib.hid hroom
      have HST : Hid (altB L h (kids.take (j + 1)) s = ((L.body (.mk qk qt ql qh qkids qn qx) rj).2.put h (L.body (.mk qk qt ql qh qkids qn qx) rj).1)) := by
        show _ = _
        rw [NXT.out, EQ]
        rfl
      have HLEN : Hid ((L.body (.mk qk qt ql qh qkids qn qx) rj).2.list.length ≤ 1000000) := by
        have h1 := HFEW.out.2.2
        have h2 := HRM.out.l
        show _ ≤ _
        omega
      clear EQ hroom hask BW hokq HFEW hrj NXT HRM
      generalize L.body (.mk qk qt ql qh qkids qn qx) rj = o2 at *
      go_wp2_with fail
      refine HC.out.mono ?_
      rintro e w2 ⟨K2, c2, rfl, ho2, A2, cp2, z2, hp2, hap2⟩
      have hsz := HMP.out.k.b.size
      have HMP2 := Lib.hid (HMP.out.trans hp2)
      have HP := Lib.hid (put_any h o2.1 K2 c2 w0 mb rv o2.2 A2 cp2 ((xs ++ zs) ++ z2) w2 hp2.k HLEN.out (own_base ho2 (by omega)) (apart_all HMP.out.k.low (fun b hb => (ho2.lt b hb).1) hap2))
      have hWr := HMP.out.f.size
      have HX : Hid (∀ b, (⟨⟨(h : Int), o2.1⟩, K2, c2⟩ : Pv).sl.ownBlock = some b → W.heap.size ≤ b) := fun b hb => by have := (ho2.lt b hb).1; omega
      clear hp2 hap2 ho2 x4 p0 p1 p2 p3 p4 p5 p6 HC
      go_wp2_with fail
      refine HP.out.mono ?_
      rintro e w3 ⟨rfl, A3, c3, hm3, hf3⟩
      rw [List.append_assoc xs zs z2] at hm3
      have FIN := Lib.hid (HMP2.out.putx hm3 hf3 HX.out)
      clear hm3 hf3
      go_wp2
      go_roundw
      case rel => exact ⟨j + 1, by omega, by go_num, A3, c3, _, by rw [HST.out]; exact FIN⟩
      case measure => simp [intOf]; omega
    · have hlt' : ¬ (j : Int) < (kids.length : Int) := by omega
      have e : kids.take j = kids := List.take_of_length_le (by omega)
      rw [e] at HMP
      have FIN := Lib.hid (MkP.after HBX.out HMP.out)
      go_wp2
      refine bodyPost_end (results_none rfl _ _ _) rfl ?_
      exact ⟨rfl, A1, c1, zs, FIN.out⟩

end Go.Proofs.Ytkgiklmdpdakbaa

