/- The specification's maker of productions: a part again and again, up to a number of times. -/
import Derived.Test.YtkgiklmdpdakbaaZ12
namespace Go.Proofs.Ytkgiklmdpdakbaa
open Go.RowKit
set_option linter.unusedVariables false

set_option maxRecDepth 100000 in
set_option maxHeartbeats 4000000 in
theorem manyTimes_any (w0 : World) (mb : Nat) (rs : List Ru) (rv : Value) (n : Nat) (L : Lv) (hL : LvOk rs n L) (IH : OneIH w0 mb rs rv n L) (h : Nat) (t : ByteArray) (lo hi : List Int) (kids : List Pt) (mn mx : Int) (A B K : Option Addr) (ca cb kc : Nat) (s : Mk) (Al : Option Addr) (cap : Nat) (xs : List Pv) (w : World) (q : Pt)
    (hq : kids = [q]) (ha : Ask w0 rs (n + 1) 6 t lo hi kids mn mx A B K) (hr : HRoom s (nodesL kids + 1)) (hk : MK w0 mb rv s Al cap xs w) (hn0 : 0 ≤ mn) (hn6 : mn ≤ 6) (hx : mx ≠ -1 ∧ mn ≤ mx ∧ mx ≤ 6) :
    Calls Try.prog 71 #[.pointer (some ⟨mb, 0, none⟩), .int .i64 (h : Int), .agg #[.int .i64 6, .string t, .slice A lo.length ca, .slice B hi.length cb, .slice K kids.length kc, .int .i64 mn, .int .i64 mx]] w (HeadPost w0 mb rv xs (manyB L h q mn mx s) w) := by
  obtain ⟨i0, hi0, hz0, hz1, hz2⟩ := info_parts info46
  have HI := Lib.hid (And.intro hi0 (And.intro hz0 (And.intro hz1 hz2)))
  clear hi0 hz0 hz1 hz2
  have hkid := ha.kids
  obtain ⟨b, off, rfl, qk, qt, ql, qh, qkids, qn, qx, QA, QB, QK, qa, qb, qc, EQ, hc, hask⟩ := ha.kid (j := 0) (by rw [hq]; simp)
  subst hq
  simp only [List.getElem_cons_zero] at EQ
  subst EQ
  obtain ⟨m, rfl⟩ : ∃ m : Nat, mn = m := ⟨mn.toNat, by omega⟩
  have hroom : Room s (Pt.mk qk qt ql qh qkids qn qx).nodes := by
    obtain ⟨a1, a2, a3⟩ := hr
    simp only [nodesL] at a1 a2 a3
    exact ⟨by omega, by omega, by omega⟩
  have hfew := hL.one (.mk qk qt ql qh qkids qn qx) s (hkid _ (by simp)).1 (hkid _ (by simp)).2
  have HRM : Hid ((L.one (.mk qk qt ql qh qkids qn qx) s).2.heads ≤ 600000 ∧ (L.one (.mk qk qt ql qh qkids qn qx) s).2.list.length ≤ 600000) := by
    obtain ⟨⟨a1, a2, a3, a4⟩, a5⟩ := hfew
    obtain ⟨b1, b2, b3⟩ := hroom
    exact ⟨by omega, by omega⟩
  clear hfew hr hkid hL
  have HBX := Lib.hid (below_box (w := w) (.cells #[.int .i64 6, .string t, .slice A lo.length ca, .slice B hi.length cb, .slice (some ⟨b, off, none⟩) [Pt.mk qk qt ql qh qkids qn qx].length kc, .int .i64 (m : Int), .int .i64 mx] 88))
  have OB : Hid (Own (w.alloc (.cells #[.int .i64 6, .string t, .slice A lo.length ca, .slice B hi.length cb, .slice (some ⟨b, off, none⟩) [Pt.mk qk qt ql qh qkids qn qx].length kc, .int .i64 (m : Int), .int .i64 mx] 88)) w.heap.size 88 [.int .i64 6, .string t, .slice A lo.length ca, .slice B hi.length cb, .slice (some ⟨b, off, none⟩) [Pt.mk qk qt ql qh qkids qn qx].length kc, .int .i64 (m : Int), .int .i64 mx]) := Own.new w 88 _
  have HM := Lib.hid (hk.keep HBX.out)
  have hw0 : w0.heap.size ≤ w.heap.size := hk.b.size
  have HSZ : Hid ((w.alloc (.cells #[.int .i64 6, .string t, .slice A lo.length ca, .slice B hi.length cb, .slice (some ⟨b, off, none⟩) [Pt.mk qk qt ql qh qkids qn qx].length kc, .int .i64 (m : Int), .int .i64 mx] 88)).heap.size = w.heap.size + 1) := by show _ = _; simp
  obtain ⟨p0, p1, p2, p3, p4, p5, p6⟩ := hc
  rw [Nat.zero_mul, Nat.add_zero] at p0 p1 p2 p3 p4 p5 p6
  replace p0 := cell_keep HM.out.b p0
  replace p1 := cell_keep HM.out.b p1
  replace p2 := cell_keep HM.out.b p2
  replace p3 := cell_keep HM.out.b p3
  replace p4 := cell_keep HM.out.b p4
  replace p5 := cell_keep HM.out.b p5
  replace p6 := cell_keep HM.out.b p6
  have HC := Lib.hid (IH qk qt ql qh qkids qn qx QA QB QK qa qb qc s Al cap xs _ hask hroom HM.out)
  have HMB : Hid (manyB L h (.mk qk qt ql qh qkids qn qx) (m : Int) mx s = timesB h (L.one (.mk qk qt ql qh qkids qn qx) s).1 m ((mx - (m : Int)).toNat + 1) (L.one (.mk qk qt ql qh qkids qn qx) s).2) := by
    show _ = _
    unfold manyB
    rw [if_neg hx.1]; rfl
  have HXX := Lib.hid hx
  clear hask hroom IH hk hx
  generalize L.one (.mk qk qt ql qh qkids qn qx) s = o2 at *
  generalize manyB L h (.mk qk qt ql qh qkids qn qx) (m : Int) mx s = MB at *
  simp only [List.length_singleton] at *
  go_enter Try.func71, Try.ntmps71
  have w4 := (OB.out.cell 4).trans rfl
  simp only [List.getElem?_cons_zero, List.getElem?_cons_succ] at w4
  go_upto_region 1 with fail
  generalize w.alloc (.cells #[.int .i64 6, .string t, .slice A lo.length ca, .slice B hi.length cb, .slice (some ⟨b, off, none⟩) 1 kc, .int .i64 (m : Int), .int .i64 mx] 88) = W at *
  go_wp2_with fail
  refine HC.out.mono ?_
  rintro e w2 ⟨rfl, A2, c2, z2, hp2⟩
  have HP2 := Lib.hid hp2
  have y5 : w2.cell? ⟨w.heap.size, 5, none⟩ = some (.int .i64 (m : Int)) := ((hp2.f.own HM.out.o OB.out (by decide) (by decide)).cell 5).trans rfl
  have y6 : w2.cell? ⟨w.heap.size, 6, none⟩ = some (.int .i64 mx) := ((hp2.f.own HM.out.o OB.out (by decide) (by decide)).cell 6).trans rfl
  have hw2 : W.heap.size ≤ w2.heap.size := hp2.f.size
  have HB2 := Lib.hid (below_box (w := w2) (.cells #[.int .i64 o2.1.head, .int .i64 o2.1.low, .int .i64 o2.1.high] 49))
  have OX0 := Own.new w2 49 #[.int .i64 o2.1.head, .int .i64 o2.1.low, .int .i64 o2.1.high]
  replace y5 := cell_keep HB2.out y5
  replace y6 := cell_keep HB2.out y6
  have HS2 : Hid ((w2.alloc (.cells #[.int .i64 o2.1.head, .int .i64 o2.1.low, .int .i64 o2.1.high] 49)).heap.size = w2.heap.size + 1) := by show _ = _; simp
  have OX := Lib.hid OX0
  clear hp2 p0 p1 p2 p3 p4 p5 p6 OX0 HC w4
  go_wp2_with fail
  generalize w2.alloc (.cells #[.int .i64 o2.1.head, .int .i64 o2.1.low, .int .i64 o2.1.high] 49) = W2 at *
  have HY5 := Lib.hid y5
  have HY6 := Lib.hid y6
  clear y5 y6
  go_loopw [7, 8] (fun o i wr => ∃ k : Nat, k ≤ m ∧ i = .int .i64 k ∧ (∃ g cp, o = .slice (some ⟨g, 0, none⟩) k cp ∧ Hid (wr.ownsRow W2.heap.size 49 3 (.slice (some ⟨g, 0, none⟩) k cp) k (symCells (List.replicate k o2.1)))) ∧ Hid (Below W2.heap.size W2 wr)) (fun _ i _ => m - (intOf i).toNat)
  case atStart =>
    refine ⟨0, Nat.zero_le _, rfl, ⟨_, _, rfl, ?_⟩, below_box _⟩
    have := own_empty W2 49 3 W2.heap.size (Nat.le_refl _)
    rw [HS2.out] at this ⊢
    exact this
  case round =>
    obtain ⟨k, hk, rfl, ⟨g, cp, rfl, HROW⟩, HB⟩ := hrel
    have y5 := cell_keep HB.out HY5.out
    have OXr := OX.out.keep HB.out
    have v0 := (OXr.cell 0).trans rfl
    have v1 := (OXr.cell 1).trans rfl
    have v2 := (OXr.cell 2).trans rfl
    simp only [List.getElem?_cons_zero, List.getElem?_cons_succ] at v0 v1 v2
    have hwW : W2.heap.size ≤ wr.heap.size := HB.out.size
    clear OXr
    by_cases hlt : k < m
    · have hlt' : (k : Int) < (m : Int) := by omega
      have HRO := Lib.hid (own_keep HROW.out (below_box (.cells #[.int .i64 o2.1.head, .int .i64 o2.1.low, .int .i64 o2.1.high] 49)))
      go_wp2_with (at_builtin; refine wpList_append_own_at _ rfl _ _ 44 rfl W2.heap.size 49 i0 (.agg #[.int .i64 0, .int .i64 0, .int .i64 0]) 3 24 Try.underlying44 HI.out.1 HI.out.2.1 HI.out.2.2.1 HI.out.2.2.2 rfl (by decide) _ _ (symCells (List.replicate k o2.1)) rfl HRO.out ⟨wr.heap.size, 0, none⟩ 1 1 [.int .i64 o2.1.head, .int .i64 o2.1.low, .int .i64 o2.1.high] rfl rfl (new3 wr _ _ _) ?c2 ?c3 ?c4 ?c5 ?_)
      case c2 => intro u hu; simp at hu; rcases hu with rfl | rfl | rfl <;> rfl
      case c3 => unfold maxLen; omega
      case c4 => omega
      case c5 => simp; omega
      intro v' w4 hown' hgrow _ hblk
      obtain ⟨g4, c4, rfl, _, _⟩ := own_some hown' (by omega)
      have HB4 : Hid (Below W2.heap.size W2 w4) := (HB.out.alloc HB.out.size _).grown hgrow (by simp; omega) (fun k hk => (HROW.out.lt k hk).1)
      have HRO4 : Hid (w4.ownsRow W2.heap.size 49 3 (.slice (some ⟨g4, 0, none⟩) (k + 1) c4) (k + 1) (symCells (List.replicate (k + 1) o2.1))) := by
        show w4.ownsRow _ _ _ _ _ _
        rw [List.replicate_succ', symCells_append]
        exact hown'
      clear hown' hgrow hblk HRO HROW HB v0 v1 v2 y5
      go_wp2
      go_roundw
      case rel => exact ⟨k + 1, by omega, by go_num, ⟨g4, c4, rfl, HRO4⟩, HB4⟩
      case measure => simp [intOf]; omega
    · have hlt' : ¬ (k : Int) < (m : Int) := by omega
      have hkm : k = m := by omega
      subst hkm
      have y6 := cell_keep HB.out HY6.out
      have HP3 := Lib.hid ((HP2.out.then_ HB2.out).then_ HB.out)
      have hg := (HROW.out.lt g rfl)
      have HZ : Hid (∀ z ∈ z2, ∀ b, z.sl.ownBlock = some b → b < W2.heap.size) := fun z hz b hb => by
        have := HP2.out.k.low z (List.mem_append_right _ hz) b hb
        have := HS2.out
        omega
      have hW2 : W.heap.size ≤ W2.heap.size := by have := HS2.out; omega
      obtain ⟨hr1, hr2⟩ := HRM.out
      obtain ⟨hx1, hx2, hx3⟩ := HXX.out
      obtain ⟨M, hM⟩ : ∃ M : Nat, mx = M := ⟨mx.toNat, by omega⟩
      subst hM
      have hmx : ((M : Int) == -1) = false := by first | (simp; done) | (simp; omega)
      have HMX : Hid (k ≤ M ∧ M ≤ 6) := ⟨by omega, by omega⟩
      have HAP0 : ∀ i (hi : i < (xs ++ z2).length) b, (xs ++ z2)[i].sl.ownBlock = some b → (Value.slice (some ⟨g, 0, none⟩) k cp).ownBlock ≠ some b := fun i hi b hb e => by
        have e' : g = b := by simpa [Value.ownBlock] using e
        rcases List.mem_append.1 (List.getElem_mem hi) with hz | hz
        · have := HM.out.low _ hz b hb
          omega
        · have := HZ.out _ hz b hb
          omega
      have HPUT0 := put_any h (List.replicate k o2.1) (some ⟨g, 0, none⟩) cp w0 mb rv o2.2 A2 c2 (xs ++ z2) wr HP3.out.k (by omega) (by rw [List.length_replicate]; exact own_base HROW.out (by have := HM.out.b.size; omega)) (by rw [List.length_replicate]; exact HAP0)
      rw [List.length_replicate] at HPUT0
      have HPUT0' := Lib.hid HPUT0
      have OXr := Lib.hid (OX.out.keep HB.out)
      clear HPUT0 HAP0 HXX v0 v1 v2 hx1 hx2 hx3 HRM
      go_wp2_with fail
      refine HPUT0'.out.mono ?_
      rintro e w5 ⟨rfl, A5, c5, hm5, hf5⟩
      have HP5 := Lib.hid (HP3.out.putx hm5 hf5 (fun b hb => by have : g = b := (by simpa [Pv.sl, Value.ownBlock] using hb); omega))
      have HR5 := Lib.hid (hf5.row HP3.out.k.o HROW.out)
      have OX5 := Lib.hid (hf5.own HP3.out.k.o OXr.out (by decide) (by decide))
      have y5 : w5.cell? ⟨w.heap.size, 5, none⟩ = some (.int .i64 (k : Int)) := ((HP5.out.f.own HM.out.o OB.out (by decide) (by decide)).cell 5).trans rfl
      have hw25 : W2.heap.size ≤ w5.heap.size := by have := hf5.size; omega
      clear hm5 hf5 HPUT0' HP3 HROW OXr HB HY5 HY6 y6 HP2 OX HB2
      go_wp2_with fail
      clear y5
      go_loopw [7, 10] (fun o i wq => ∃ u : Nat, k + u ≤ M ∧ i = .int .i64 ((k + u : Nat) : Int) ∧ (∃ g1 cp1, o = .slice (some ⟨g1, 0, none⟩) (k + u) cp1 ∧ Hid (wq.ownsRow W2.heap.size 49 3 (.slice (some ⟨g1, 0, none⟩) (k + u) cp1) (k + u) (symCells (List.replicate (k + u) o2.1)))) ∧ ∃ A' c' zs, Hid (MkP w0 mb rv xs W (timesB h o2.1 k (u + 1) o2.2) A' c' zs wq) ∧ Hid (Own wq w2.heap.size 49 [.int .i64 o2.1.head, .int .i64 o2.1.low, .int .i64 o2.1.high]) ∧ Hid (W2.heap.size ≤ wq.heap.size)) (fun _ i _ => M - (intOf i).toNat)
      case atStart => exact ⟨0, HMX.out.1, rfl, ⟨g, cp, rfl, HR5⟩, A5, c5, _, HP5, OX5, hw25⟩
      case round =>
        clear HP5 HR5 OX5 hw25
        obtain ⟨u, huM, rfl, ⟨g1, cp1, rfl, HR⟩, A6, c6, zs, HP, OXq, HWQ⟩ := hrel
        rename World => wq
        have y6 : wq.cell? ⟨w.heap.size, 6, none⟩ = some (.int .i64 (M : Int)) := ((HP.out.f.own HM.out.o OB.out (by decide) (by decide)).cell 6).trans rfl
        by_cases hlt2 : k + u < M
        · have hlt2' : ((k + u : Nat) : Int) < (M : Int) := by omega
          have hk6 := HMX.out.2
          obtain ⟨N, hN⟩ : ∃ N, k + u = N := ⟨_, rfl⟩
          have HU : Hid (timesB h o2.1 k (u + 1 + 1) o2.2 = (timesB h o2.1 k (u + 1) o2.2).put h (List.replicate (N + 1) o2.1)) := by
            show _ = _
            rw [timesB_succ, ← hN]
            rfl
          have HTL : Hid ((timesB h o2.1 k (u + 1) o2.2).list.length ≤ 1000000) := by
            show _ ≤ _
            rw [(timesB_len h o2.1 k (u + 1) o2.2).2]
            omega
          have HNU := Lib.hid hN
          rw [hN] at HR hlt2 hlt2' huM ⊢
          clear hN
          have v0 := (OXq.out.cell 0).trans rfl
          have v1 := (OXq.out.cell 1).trans rfl
          have v2 := (OXq.out.cell 2).trans rfl
          simp only [List.getElem?_cons_zero, List.getElem?_cons_succ] at v0 v1 v2
          have HROW := HR.out.drew
          have HRR := Lib.hid HROW
          have hN6 : N ≤ 6 := by omega
          go_wp2
          clear y6 HROW
          refine wp_region_held_drew (S := (fun X => X.cell? ⟨w2.heap.size, 0, none⟩ = some (.int .i64 o2.1.head) ∧ X.cell? ⟨w2.heap.size, 1, none⟩ = some (.int .i64 o2.1.low) ∧ X.cell? ⟨w2.heap.size, 2, none⟩ = some (.int .i64 o2.1.high))) (by kernel_rfl) ?_ (fun hHeld => ?_)
          · exact ⟨v0, v1, v2⟩
          (first
            | (refine held_take (i := 1) (v := ?_) rfl (by kernel_rfl) (by kernel_rfl) (by kernel_rfl) (fun _ _ _ h => h) (Or.inl ⟨rfl, ?_⟩) (by assumption) ?_; rotate_left; (intro X hSw; (try dsimp only at hSw); (go_simp <;> with_reducible rfl)))
            | (refine held_take (i := 1) (v := undef) rfl (by kernel_rfl) (by kernel_rfl) (by kernel_rfl) (fun _ _ _ h => h) (Or.inr ⟨rfl, rfl⟩) (by assumption) ?_)); simp only [Act.put, List.setIfInBounds_toArray, List.set_cons_zero, List.set_cons_succ]
          (first
            | (refine held_take (i := 3) (v := ?_) rfl (by kernel_rfl) (by kernel_rfl) (by kernel_rfl) (fun _ _ _ h => h) (Or.inl ⟨rfl, ?_⟩) (by assumption) ?_; rotate_left; (intro X hSw; (try dsimp only at hSw); (go_simp <;> with_reducible rfl)))
            | (refine held_take (i := 3) (v := undef) rfl (by kernel_rfl) (by kernel_rfl) (by kernel_rfl) (fun _ _ _ h => h) (Or.inr ⟨rfl, rfl⟩) (by assumption) ?_)); simp only [Act.put, List.setIfInBounds_toArray, List.set_cons_zero, List.set_cons_succ]
          replace v0 : wq.drew.cell? ⟨w2.heap.size, 0, none⟩ = some (.int .i64 o2.1.head) := v0
          replace v1 : wq.drew.cell? ⟨w2.heap.size, 1, none⟩ = some (.int .i64 o2.1.low) := v1
          replace v2 : wq.drew.cell? ⟨w2.heap.size, 2, none⟩ = some (.int .i64 o2.1.high) := v2
          have HX0 := Lib.hid (Below.refl wq.heap.size wq).drew
          have hs0 : Hid (wq.drew.heap.size = wq.heap.size) := rfl
          refine wpAnyH_ready (rs := [0, 4]) (by kernel_rfl) (by simp) ?_
          refine AllReadyH.cons rfl (fun K hK => ?_) (AllReadyH.cons rfl (fun K hK => ?_) AllReadyH.nil)
          · have HRR0 := HRR
            generalize wq.drew = X0 at HRR0 HX0 v0 v1 v2 hs0 hK ⊢
            have HB : Below X0.heap.size X0 X0 := Below.refl _ _
            obtain ⟨B0, hB0⟩ : ∃ B0, Hid (B0 = X0.heap.size) := ⟨_, rfl⟩
            have E := own_empty X0 49 3 X0.heap.size (Nat.le_refl _)
            replace E := own_base E (show B0 ≤ X0.heap.size by have := HB.size; have := hB0.out; omega)
            replace HB := HB.alloc HB.size (.cells #[] 49)
            go_simp
            refine hK.out _ _ ?_ (fun hHeld => ?_)
            · exact ⟨cell_keep HB v0, cell_keep HB v1, cell_keep HB v2⟩
            clear hK K
            generalize hEB' : X0.heap.size = eb at E ⊢
            have hEB := Lib.hid hEB'
            clear hEB'
            generalize X0.alloc (.cells #[] 49) = X1 at *
            refine wpAnyH_ready (rs := [2, 4]) (by kernel_rfl) (by simp) ?_
            refine AllReadyH.cons rfl (fun K hK => ?_) (AllReadyH.cons rfl (fun K hK => ?_) AllReadyH.nil)
            · refine step_own_at X1 rfl _ _ 44 rfl B0 49 i0 (.agg #[.int .i64 0, .int .i64 0, .int .i64 0]) 3 24 Try.underlying44 HI.out.1 HI.out.2.1 HI.out.2.2.1 HI.out.2.2.2 rfl (by decide) _ _ _ rfl E ⟨g1, 0, none⟩ N cp1 (symCells (List.replicate N o2.1)) rfl (by rw [symCells_length, List.length_replicate]) (Row.news (own_rowN (own_keep HRR0.out HB))) (symCells_one _) (by unfold maxLen; omega) (by omega) (by have := HB.size; have := hB0.out; omega) ?_
              intro v7 X2 hown7 hgrow7 _
              simp only [Nat.zero_add, List.nil_append] at hown7
              obtain ⟨K7, k7, rfl⟩ := own_form hown7
              replace HB := HB.grown hgrow7 HB.size (fun k hk => by have := (E.lt k hk).1; have := hB0.out; omega)
              refine hK.out _ _ ?_ (fun hHeld => ?_)
              · exact ⟨cell_keep HB v0, cell_keep HB v1, cell_keep HB v2⟩
              clear hK K
              simp only [Act.put, List.setIfInBounds_toArray, List.set_cons_zero, List.set_cons_succ]
              clear hgrow7 E
              refine wpAnyH_ready (rs := [4]) (by kernel_rfl) (by simp) ?_
              refine AllReadyH.cons rfl (fun K hK => ?_) AllReadyH.nil
              have OS := Own.new X2 49 #[.int .i64 o2.1.head, .int .i64 o2.1.low, .int .i64 o2.1.high]
              replace hown7 := own_keep hown7 (below_box (.cells #[.int .i64 o2.1.head, .int .i64 o2.1.low, .int .i64 o2.1.high] 49))
              replace HB := HB.alloc HB.size (.cells #[.int .i64 o2.1.head, .int .i64 o2.1.low, .int .i64 o2.1.high] 49)
              go_simp
              refine hK.out _ _ ?_ (fun hHeld => ?_)
              · exact ⟨cell_keep HB v0, cell_keep HB v1, cell_keep HB v2⟩
              clear hK K
              generalize hOB' : X2.heap.size = ob at OS ⊢
              have hOB := Lib.hid hOB'
              clear hOB'
              generalize X2.alloc (.cells #[.int .i64 o2.1.head, .int .i64 o2.1.low, .int .i64 o2.1.high] 49) = X3 at *
              refine wpAnyH_ready (rs := [5]) (by kernel_rfl) (by simp) ?_
              refine AllReadyH.cons rfl (fun K hK => ?_) AllReadyH.nil
              refine step_own_at X3 rfl _ _ 44 rfl B0 49 i0 (.agg #[.int .i64 0, .int .i64 0, .int .i64 0]) 3 24 Try.underlying44 HI.out.1 HI.out.2.1 HI.out.2.2.1 HI.out.2.2.2 rfl (by decide) _ _ _ rfl hown7 ⟨ob, 0, none⟩ 1 1 [.int .i64 o2.1.head, .int .i64 o2.1.low, .int .i64 o2.1.high] rfl rfl OS.row.news (fun u hu => by simp at hu; rcases hu with rfl | rfl | rfl <;> rfl) (by unfold maxLen; omega) (by omega) (by have := HB.size; have := hB0.out; omega) ?_
              intro v8 X4 hown8 hgrow8 _
              obtain ⟨g8, k8, rfl, hg8, _⟩ := own_some hown8 (by omega)
              replace HB := HB.grown hgrow8 HB.size (fun k hk => by have := (hown7.lt k hk).1; have := hB0.out; omega)
              refine hK.out _ _ ?_ (fun hHeld => ?_)
              · exact ⟨cell_keep HB v0, cell_keep HB v1, cell_keep HB v2⟩
              clear hK K
              simp only [Act.put, List.setIfInBounds_toArray, List.set_cons_zero, List.set_cons_succ]
              (first
                | (refine held_take (i := 6) (v := ?_) rfl (by kernel_rfl) (by kernel_rfl) (by kernel_rfl) (fun _ _ _ h => h) (Or.inl ⟨rfl, ?_⟩) (by assumption) ?_; rotate_left; (intro X hSw; (try dsimp only at hSw); (go_simp <;> with_reducible rfl)))
                | (refine held_take (i := 6) (v := undef) rfl (by kernel_rfl) (by kernel_rfl) (by kernel_rfl) (fun _ _ _ h => h) (Or.inr ⟨rfl, rfl⟩) (by assumption) ?_)); simp only [Act.put, List.setIfInBounds_toArray, List.set_cons_zero, List.set_cons_succ]
              refine wpAnyH_done (by kernel_rfl) ?_ _
              have hs0' := hs0.out
              have hB0' := hB0.out
              have HBw : Below wq.heap.size wq X4 := HX0.out.trans (HB.mono (by omega))
              have HPn := Lib.hid (HP.out.then_ HBw)
              have hWQ := HWQ.out
              have HR8 : X4.ownsRow B0 49 3 (.slice (some ⟨g8, 0, none⟩) (N + 1) k8) (N + 1) (symCells (List.replicate (N + 1) o2.1)) := by
                rw [List.replicate_succ', symCells_append]
                exact hown8
              have HAPn : ∀ i (hi : i < (xs ++ zs).length) b, (xs ++ zs)[i].sl.ownBlock = some b → (Value.slice (some ⟨g8, 0, none⟩) (N + 1) k8).ownBlock ≠ some b := fun i hi b hb e => by
                have e' : g8 = b := by simpa [Value.ownBlock] using e
                have := HP.out.k.low _ (List.getElem_mem hi) b hb
                omega
              have HPUT := put_any h (List.replicate (N + 1) o2.1) (some ⟨g8, 0, none⟩) k8 w0 mb rv _ A6 c6 (xs ++ zs) X4 HPn.out.k HTL.out (by rw [List.length_replicate]; exact own_base HR8 (by have := HP.out.k.b.size; omega)) (by rw [List.length_replicate]; exact HAPn)
              rw [List.length_replicate] at HPUT
              have HPUT' := Lib.hid HPUT
              have HR8' := Lib.hid (own_base HR8 (show W2.heap.size ≤ B0 by omega))
              have OX8 := Lib.hid (OXq.out.keep HBw)
              have hg8' : wq.heap.size ≤ g8 := by omega
              clear HPUT HAPn HR8 hown8 hgrow8 hown7 OS HB HBw HP OXq v0 v1 v2 hHeld HR HRR HRR0 HX0
              go_wp2_with fail
              refine HPUT'.out.mono ?_
              rintro e w9 ⟨rfl, A9, c9, hm9, hf9⟩
              have HP9 := Lib.hid (HPn.out.putx hm9 hf9 (fun b hb => by have : g8 = b := (by simpa [Pv.sl, Value.ownBlock] using hb); omega))
              have HR9 := Lib.hid (hf9.row HPn.out.k.o HR8'.out)
              have OX9 := Lib.hid (hf9.own HPn.out.k.o OX8.out (by decide) (by decide))
              have hw9 : W2.heap.size ≤ w9.heap.size := by have := HP9.out.f.size; have := HR9.out.lt g8 rfl; omega
              have hNu := HNU.out
              clear hm9 hf9 HPUT' HR8' OX8 HPn
              rw [← HU.out] at HP9
              have hN1 : N + 1 = k + (u + 1) := by omega
              clear hNu
              go_wp2
              go_roundw
              case rel => exact ⟨u + 1, by omega, by rw [← hN1]; go_num, ⟨g8, k8, by rw [← hN1], by rw [← hN1]; exact HR9⟩, A9, c9, _, HP9, OX9, hw9⟩
              case measure => simp [intOf]; omega
            · have OS := Own.new X1 49 #[.int .i64 o2.1.head, .int .i64 o2.1.low, .int .i64 o2.1.high]
              have HNE : ∀ b, (Value.slice (some ⟨eb, 0, none⟩) 0 0).ownBlock = some b → b < X1.heap.size := fun b hb => (E.lt b hb).2
              replace E := own_keep E (below_box (.cells #[.int .i64 o2.1.head, .int .i64 o2.1.low, .int .i64 o2.1.high] 49))
              replace HB := HB.alloc HB.size (.cells #[.int .i64 o2.1.head, .int .i64 o2.1.low, .int .i64 o2.1.high] 49)
              go_simp
              refine hK.out _ _ ?_ (fun hHeld => ?_)
              · exact ⟨cell_keep HB v0, cell_keep HB v1, cell_keep HB v2⟩
              clear hK K
              generalize hOB' : X1.heap.size = ob at OS ⊢
              have hOB := Lib.hid hOB'
              clear hOB'
              generalize X1.alloc (.cells #[.int .i64 o2.1.head, .int .i64 o2.1.low, .int .i64 o2.1.high] 49) = X2 at *
              refine wpAnyH_ready (rs := [2]) (by kernel_rfl) (by simp) ?_
              refine AllReadyH.cons rfl (fun K hK => ?_) AllReadyH.nil
              refine step_own_at X2 rfl _ _ 44 rfl B0 49 i0 (.agg #[.int .i64 0, .int .i64 0, .int .i64 0]) 3 24 Try.underlying44 HI.out.1 HI.out.2.1 HI.out.2.2.1 HI.out.2.2.2 rfl (by decide) _ _ _ rfl E ⟨g1, 0, none⟩ N cp1 (symCells (List.replicate N o2.1)) rfl (by rw [symCells_length, List.length_replicate]) (Row.news (own_rowN (own_keep HRR0.out HB))) (symCells_one _) (by unfold maxLen; omega) (by omega) (by have := HB.size; have := hB0.out; omega) ?_
              intro v7 X3 hown7 hgrow7 _
              simp only [Nat.zero_add, List.nil_append] at hown7
              obtain ⟨K7, k7, rfl⟩ := own_form hown7
              replace OS : Own X3 ob 49 _ := (hgrow7.block ob OS.lt (fun e => by have h3 := HNE ob e.symm; have := hOB.out; omega)).trans OS
              replace HB := HB.grown hgrow7 HB.size (fun k hk => by have := (E.lt k hk).1; have := hB0.out; omega)
              refine hK.out _ _ ?_ (fun hHeld => ?_)
              · exact ⟨cell_keep HB v0, cell_keep HB v1, cell_keep HB v2⟩
              clear hK K
              simp only [Act.put, List.setIfInBounds_toArray, List.set_cons_zero, List.set_cons_succ]
              clear hgrow7 E
              refine wpAnyH_ready (rs := [5]) (by kernel_rfl) (by simp) ?_
              refine AllReadyH.cons rfl (fun K hK => ?_) AllReadyH.nil
              refine step_own_at X3 rfl _ _ 44 rfl B0 49 i0 (.agg #[.int .i64 0, .int .i64 0, .int .i64 0]) 3 24 Try.underlying44 HI.out.1 HI.out.2.1 HI.out.2.2.1 HI.out.2.2.2 rfl (by decide) _ _ _ rfl hown7 ⟨ob, 0, none⟩ 1 1 [.int .i64 o2.1.head, .int .i64 o2.1.low, .int .i64 o2.1.high] rfl rfl OS.row.news (fun u hu => by simp at hu; rcases hu with rfl | rfl | rfl <;> rfl) (by unfold maxLen; omega) (by omega) (by have := HB.size; have := hB0.out; omega) ?_
              intro v8 X4 hown8 hgrow8 _
              obtain ⟨g8, k8, rfl, hg8, _⟩ := own_some hown8 (by omega)
              replace HB := HB.grown hgrow8 HB.size (fun k hk => by have := (hown7.lt k hk).1; have := hB0.out; omega)
              refine hK.out _ _ ?_ (fun hHeld => ?_)
              · exact ⟨cell_keep HB v0, cell_keep HB v1, cell_keep HB v2⟩
              clear hK K
              simp only [Act.put, List.setIfInBounds_toArray, List.set_cons_zero, List.set_cons_succ]
              (first
                | (refine held_take (i := 6) (v := ?_) rfl (by kernel_rfl) (by kernel_rfl) (by kernel_rfl) (fun _ _ _ h => h) (Or.inl ⟨rfl, ?_⟩) (by assumption) ?_; rotate_left; (intro X hSw; (try dsimp only at hSw); (go_simp <;> with_reducible rfl)))
                | (refine held_take (i := 6) (v := undef) rfl (by kernel_rfl) (by kernel_rfl) (by kernel_rfl) (fun _ _ _ h => h) (Or.inr ⟨rfl, rfl⟩) (by assumption) ?_)); simp only [Act.put, List.setIfInBounds_toArray, List.set_cons_zero, List.set_cons_succ]
              refine wpAnyH_done (by kernel_rfl) ?_ _
              have hs0' := hs0.out
              have hB0' := hB0.out
              have HBw : Below wq.heap.size wq X4 := HX0.out.trans (HB.mono (by omega))
              have HPn := Lib.hid (HP.out.then_ HBw)
              have hWQ := HWQ.out
              have HR8 : X4.ownsRow B0 49 3 (.slice (some ⟨g8, 0, none⟩) (N + 1) k8) (N + 1) (symCells (List.replicate (N + 1) o2.1)) := by
                rw [List.replicate_succ', symCells_append]
                exact hown8
              have HAPn : ∀ i (hi : i < (xs ++ zs).length) b, (xs ++ zs)[i].sl.ownBlock = some b → (Value.slice (some ⟨g8, 0, none⟩) (N + 1) k8).ownBlock ≠ some b := fun i hi b hb e => by
                have e' : g8 = b := by simpa [Value.ownBlock] using e
                have := HP.out.k.low _ (List.getElem_mem hi) b hb
                omega
              have HPUT := put_any h (List.replicate (N + 1) o2.1) (some ⟨g8, 0, none⟩) k8 w0 mb rv _ A6 c6 (xs ++ zs) X4 HPn.out.k HTL.out (by rw [List.length_replicate]; exact own_base HR8 (by have := HP.out.k.b.size; omega)) (by rw [List.length_replicate]; exact HAPn)
              rw [List.length_replicate] at HPUT
              have HPUT' := Lib.hid HPUT
              have HR8' := Lib.hid (own_base HR8 (show W2.heap.size ≤ B0 by omega))
              have OX8 := Lib.hid (OXq.out.keep HBw)
              have hg8' : wq.heap.size ≤ g8 := by omega
              clear HPUT HAPn HR8 hown8 hgrow8 hown7 OS HB HBw HP OXq v0 v1 v2 hHeld HR HRR HRR0 HX0
              go_wp2_with fail
              refine HPUT'.out.mono ?_
              rintro e w9 ⟨rfl, A9, c9, hm9, hf9⟩
              have HP9 := Lib.hid (HPn.out.putx hm9 hf9 (fun b hb => by have : g8 = b := (by simpa [Pv.sl, Value.ownBlock] using hb); omega))
              have HR9 := Lib.hid (hf9.row HPn.out.k.o HR8'.out)
              have OX9 := Lib.hid (hf9.own HPn.out.k.o OX8.out (by decide) (by decide))
              have hw9 : W2.heap.size ≤ w9.heap.size := by have := HP9.out.f.size; have := HR9.out.lt g8 rfl; omega
              have hNu := HNU.out
              clear hm9 hf9 HPUT' HR8' OX8 HPn
              rw [← HU.out] at HP9
              have hN1 : N + 1 = k + (u + 1) := by omega
              clear hNu
              go_wp2
              go_roundw
              case rel => exact ⟨u + 1, by omega, by rw [← hN1]; go_num, ⟨g8, k8, by rw [← hN1], by rw [← hN1]; exact HR9⟩, A9, c9, _, HP9, OX9, hw9⟩
              case measure => simp [intOf]; omega
          · have HRR0 := HRR
            generalize wq.drew = X0 at HRR0 HX0 v0 v1 v2 hs0 hK ⊢
            have HB : Below X0.heap.size X0 X0 := Below.refl _ _
            obtain ⟨B0, hB0⟩ : ∃ B0, Hid (B0 = X0.heap.size) := ⟨_, rfl⟩
            have OS := Own.new X0 49 #[.int .i64 o2.1.head, .int .i64 o2.1.low, .int .i64 o2.1.high]
            replace HB := HB.alloc HB.size (.cells #[.int .i64 o2.1.head, .int .i64 o2.1.low, .int .i64 o2.1.high] 49)
            go_simp
            refine hK.out _ _ ?_ (fun hHeld => ?_)
            · exact ⟨cell_keep HB v0, cell_keep HB v1, cell_keep HB v2⟩
            clear hK K
            generalize hOB' : X0.heap.size = ob at OS ⊢
            have hOB := Lib.hid hOB'
            clear hOB'
            generalize X0.alloc (.cells #[.int .i64 o2.1.head, .int .i64 o2.1.low, .int .i64 o2.1.high] 49) = X1 at *
            refine wpAnyH_ready (rs := [0]) (by kernel_rfl) (by simp) ?_
            refine AllReadyH.cons rfl (fun K hK => ?_) AllReadyH.nil
            have HOE : ob < X1.heap.size := OS.lt
            have E := own_empty X1 49 3 X1.heap.size (Nat.le_refl _)
            replace E := own_base E (show B0 ≤ X1.heap.size by have := HB.size; have := hB0.out; omega)
            replace HB := HB.alloc HB.size (.cells #[] 49)
            replace OS := OS.alloc (.cells #[] 49)
            go_simp
            refine hK.out _ _ ?_ (fun hHeld => ?_)
            · exact ⟨cell_keep HB v0, cell_keep HB v1, cell_keep HB v2⟩
            clear hK K
            generalize hEB' : X1.heap.size = eb at E ⊢
            have hEB := Lib.hid hEB'
            clear hEB'
            generalize X1.alloc (.cells #[] 49) = X2 at *
            refine wpAnyH_ready (rs := [2]) (by kernel_rfl) (by simp) ?_
            refine AllReadyH.cons rfl (fun K hK => ?_) AllReadyH.nil
            refine step_own_at X2 rfl _ _ 44 rfl B0 49 i0 (.agg #[.int .i64 0, .int .i64 0, .int .i64 0]) 3 24 Try.underlying44 HI.out.1 HI.out.2.1 HI.out.2.2.1 HI.out.2.2.2 rfl (by decide) _ _ _ rfl E ⟨g1, 0, none⟩ N cp1 (symCells (List.replicate N o2.1)) rfl (by rw [symCells_length, List.length_replicate]) (Row.news (own_rowN (own_keep HRR0.out HB))) (symCells_one _) (by unfold maxLen; omega) (by omega) (by have := HB.size; have := hB0.out; omega) ?_
            intro v7 X3 hown7 hgrow7 _
            simp only [Nat.zero_add, List.nil_append] at hown7
            obtain ⟨K7, k7, rfl⟩ := own_form hown7
            replace OS : Own X3 ob 49 _ := (hgrow7.block ob OS.lt (fun e => by have h3 : eb = ob := Option.some.inj (show some eb = some ob from e.symm); have := HOE; have := hEB.out; omega)).trans OS
            replace HB := HB.grown hgrow7 HB.size (fun k hk => by have := (E.lt k hk).1; have := hB0.out; omega)
            refine hK.out _ _ ?_ (fun hHeld => ?_)
            · exact ⟨cell_keep HB v0, cell_keep HB v1, cell_keep HB v2⟩
            clear hK K
            simp only [Act.put, List.setIfInBounds_toArray, List.set_cons_zero, List.set_cons_succ]
            clear hgrow7 E
            refine wpAnyH_ready (rs := [5]) (by kernel_rfl) (by simp) ?_
            refine AllReadyH.cons rfl (fun K hK => ?_) AllReadyH.nil
            refine step_own_at X3 rfl _ _ 44 rfl B0 49 i0 (.agg #[.int .i64 0, .int .i64 0, .int .i64 0]) 3 24 Try.underlying44 HI.out.1 HI.out.2.1 HI.out.2.2.1 HI.out.2.2.2 rfl (by decide) _ _ _ rfl hown7 ⟨ob, 0, none⟩ 1 1 [.int .i64 o2.1.head, .int .i64 o2.1.low, .int .i64 o2.1.high] rfl rfl OS.row.news (fun u hu => by simp at hu; rcases hu with rfl | rfl | rfl <;> rfl) (by unfold maxLen; omega) (by omega) (by have := HB.size; have := hB0.out; omega) ?_
            intro v8 X4 hown8 hgrow8 _
            obtain ⟨g8, k8, rfl, hg8, _⟩ := own_some hown8 (by omega)
            replace HB := HB.grown hgrow8 HB.size (fun k hk => by have := (hown7.lt k hk).1; have := hB0.out; omega)
            refine hK.out _ _ ?_ (fun hHeld => ?_)
            · exact ⟨cell_keep HB v0, cell_keep HB v1, cell_keep HB v2⟩
            clear hK K
            simp only [Act.put, List.setIfInBounds_toArray, List.set_cons_zero, List.set_cons_succ]
            (first
              | (refine held_take (i := 6) (v := ?_) rfl (by kernel_rfl) (by kernel_rfl) (by kernel_rfl) (fun _ _ _ h => h) (Or.inl ⟨rfl, ?_⟩) (by assumption) ?_; rotate_left; (intro X hSw; (try dsimp only at hSw); (go_simp <;> with_reducible rfl)))
              | (refine held_take (i := 6) (v := undef) rfl (by kernel_rfl) (by kernel_rfl) (by kernel_rfl) (fun _ _ _ h => h) (Or.inr ⟨rfl, rfl⟩) (by assumption) ?_)); simp only [Act.put, List.setIfInBounds_toArray, List.set_cons_zero, List.set_cons_succ]
            refine wpAnyH_done (by kernel_rfl) ?_ _
            have hs0' := hs0.out
            have hB0' := hB0.out
            have HBw : Below wq.heap.size wq X4 := HX0.out.trans (HB.mono (by omega))
            have HPn := Lib.hid (HP.out.then_ HBw)
            have hWQ := HWQ.out
            have HR8 : X4.ownsRow B0 49 3 (.slice (some ⟨g8, 0, none⟩) (N + 1) k8) (N + 1) (symCells (List.replicate (N + 1) o2.1)) := by
              rw [List.replicate_succ', symCells_append]
              exact hown8
            have HAPn : ∀ i (hi : i < (xs ++ zs).length) b, (xs ++ zs)[i].sl.ownBlock = some b → (Value.slice (some ⟨g8, 0, none⟩) (N + 1) k8).ownBlock ≠ some b := fun i hi b hb e => by
              have e' : g8 = b := by simpa [Value.ownBlock] using e
              have := HP.out.k.low _ (List.getElem_mem hi) b hb
              omega
            have HPUT := put_any h (List.replicate (N + 1) o2.1) (some ⟨g8, 0, none⟩) k8 w0 mb rv _ A6 c6 (xs ++ zs) X4 HPn.out.k HTL.out (by rw [List.length_replicate]; exact own_base HR8 (by have := HP.out.k.b.size; omega)) (by rw [List.length_replicate]; exact HAPn)
            rw [List.length_replicate] at HPUT
            have HPUT' := Lib.hid HPUT
            have HR8' := Lib.hid (own_base HR8 (show W2.heap.size ≤ B0 by omega))
            have OX8 := Lib.hid (OXq.out.keep HBw)
            have hg8' : wq.heap.size ≤ g8 := by omega
            clear HPUT HAPn HR8 hown8 hgrow8 hown7 OS HB HBw HP OXq v0 v1 v2 hHeld HR HRR HRR0 HX0
            go_wp2_with fail
            refine HPUT'.out.mono ?_
            rintro e w9 ⟨rfl, A9, c9, hm9, hf9⟩
            have HP9 := Lib.hid (HPn.out.putx hm9 hf9 (fun b hb => by have : g8 = b := (by simpa [Pv.sl, Value.ownBlock] using hb); omega))
            have HR9 := Lib.hid (hf9.row HPn.out.k.o HR8'.out)
            have OX9 := Lib.hid (hf9.own HPn.out.k.o OX8.out (by decide) (by decide))
            have hw9 : W2.heap.size ≤ w9.heap.size := by have := HP9.out.f.size; have := HR9.out.lt g8 rfl; omega
            have hNu := HNU.out
            clear hm9 hf9 HPUT' HR8' OX8 HPn
            rw [← HU.out] at HP9
            have hN1 : N + 1 = k + (u + 1) := by omega
            clear hNu
            go_wp2
            go_roundw
            case rel => exact ⟨u + 1, by omega, by rw [← hN1]; go_num, ⟨g8, k8, by rw [← hN1], by rw [← hN1]; exact HR9⟩, A9, c9, _, HP9, OX9, hw9⟩
            case measure => simp [intOf]; omega
        · have hlt2' : ¬ ((k + u : Nat) : Int) < (M : Int) := by omega
          have e : u = M - k := by omega
          have FIN := MkP.after HBX.out HP.out
          have EMB : MB = timesB h o2.1 k (u + 1) o2.2 := by
            rw [HMB.out, e]
            have : ((M : Int) - (k : Int)).toNat = M - k := by omega
            rw [this]
          rw [← EMB] at FIN
          have FIN' := Lib.hid FIN
          clear FIN EMB
          go_wp2
          refine bodyPost_end (results_none rfl _ _ _) rfl ?_
          exact ⟨rfl, A6, c6, zs, FIN'.out⟩

end Go.Proofs.Ytkgiklmdpdakbaa

