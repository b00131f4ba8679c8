/- The specification's maker of productions: a part again and again, without an end. -/
import Derived.Test.YtkgiklmdpdakbaaZ11
namespace Go.Proofs.Ytkgiklmdpdakbaa
open Go.RowKit
set_option linter.unusedVariables false

set_option maxRecDepth 100000 in
set_option maxHeartbeats 4000000 in
theorem manyStar_any (w0 : World) (mb : Nat) (rs : List Ru) (rv : Value) (n : Nat) (L : Lv) (hL : LvOk rs n L) (IH : OneIH w0 mb rs rv n L) (h : Nat) (t : ByteArray) (lo hi : List Int) (kids : List Pt) (mn mx : Int) (A B K : Option Addr) (ca cb kc : Nat) (s : Mk) (Al : Option Addr) (cap : Nat) (xs : List Pv) (w : World) (q : Pt)
    (hq : kids = [q]) (ha : Ask w0 rs (n + 1) 6 t lo hi kids mn mx A B K) (hr : HRoom s (nodesL kids + 1)) (hk : MK w0 mb rv s Al cap xs w) (hn0 : 0 ≤ mn) (hn6 : mn ≤ 6) (hx : mx = -1) :
    Calls Try.prog 71 #[.pointer (some ⟨mb, 0, none⟩), .int .i64 (h : Int), .agg #[.int .i64 6, .string t, .slice A lo.length ca, .slice B hi.length cb, .slice K kids.length kc, .int .i64 mn, .int .i64 mx]] w (HeadPost w0 mb rv xs (manyB L h q mn mx s) w) := by
  obtain ⟨i0, hi0, hz0, hz1, hz2⟩ := info_parts info46
  have HI := Lib.hid (And.intro hi0 (And.intro hz0 (And.intro hz1 hz2)))
  clear hi0 hz0 hz1 hz2
  have hkid := ha.kids
  obtain ⟨b, off, rfl, qk, qt, ql, qh, qkids, qn, qx, QA, QB, QK, qa, qb, qc, EQ, hc, hask⟩ := ha.kid (j := 0) (by rw [hq]; simp)
  subst hq
  simp only [List.getElem_cons_zero] at EQ
  subst EQ
  obtain ⟨m, rfl⟩ : ∃ m : Nat, mn = m := ⟨mn.toNat, by omega⟩
  have hroom : Room s (Pt.mk qk qt ql qh qkids qn qx).nodes := by
    obtain ⟨a1, a2, a3⟩ := hr
    simp only [nodesL] at a1 a2 a3
    exact ⟨by omega, by omega, by omega⟩
  have hfew := hL.one (.mk qk qt ql qh qkids qn qx) s (hkid _ (by simp)).1 (hkid _ (by simp)).2
  have HRM : Hid ((L.one (.mk qk qt ql qh qkids qn qx) s).2.heads ≤ 600000 ∧ (L.one (.mk qk qt ql qh qkids qn qx) s).2.list.length ≤ 600000) := by
    obtain ⟨⟨a1, a2, a3, a4⟩, a5⟩ := hfew
    obtain ⟨b1, b2, b3⟩ := hroom
    exact ⟨by omega, by omega⟩
  clear hfew hr hkid hL
  have HBX := Lib.hid (below_box (w := w) (.cells #[.int .i64 6, .string t, .slice A lo.length ca, .slice B hi.length cb, .slice (some ⟨b, off, none⟩) [Pt.mk qk qt ql qh qkids qn qx].length kc, .int .i64 (m : Int), .int .i64 mx] 88))
  have OB : Hid (Own (w.alloc (.cells #[.int .i64 6, .string t, .slice A lo.length ca, .slice B hi.length cb, .slice (some ⟨b, off, none⟩) [Pt.mk qk qt ql qh qkids qn qx].length kc, .int .i64 (m : Int), .int .i64 mx] 88)) w.heap.size 88 [.int .i64 6, .string t, .slice A lo.length ca, .slice B hi.length cb, .slice (some ⟨b, off, none⟩) [Pt.mk qk qt ql qh qkids qn qx].length kc, .int .i64 (m : Int), .int .i64 mx]) := Own.new w 88 _
  have HM := Lib.hid (hk.keep HBX.out)
  have hw0 : w0.heap.size ≤ w.heap.size := hk.b.size
  have HSZ : Hid ((w.alloc (.cells #[.int .i64 6, .string t, .slice A lo.length ca, .slice B hi.length cb, .slice (some ⟨b, off, none⟩) [Pt.mk qk qt ql qh qkids qn qx].length kc, .int .i64 (m : Int), .int .i64 mx] 88)).heap.size = w.heap.size + 1) := by show _ = _; simp
  obtain ⟨p0, p1, p2, p3, p4, p5, p6⟩ := hc
  rw [Nat.zero_mul, Nat.add_zero] at p0 p1 p2 p3 p4 p5 p6
  replace p0 := cell_keep HM.out.b p0
  replace p1 := cell_keep HM.out.b p1
  replace p2 := cell_keep HM.out.b p2
  replace p3 := cell_keep HM.out.b p3
  replace p4 := cell_keep HM.out.b p4
  replace p5 := cell_keep HM.out.b p5
  replace p6 := cell_keep HM.out.b p6
  have HC := Lib.hid (IH qk qt ql qh qkids qn qx QA QB QK qa qb qc s Al cap xs _ hask hroom HM.out)
  have HMB : Hid (manyB L h (.mk qk qt ql qh qkids qn qx) (m : Int) mx s = starB h (L.one (.mk qk qt ql qh qkids qn qx) s).1 m (L.one (.mk qk qt ql qh qkids qn qx) s).2) := by
    show _ = _
    unfold manyB
    rw [if_pos hx]; rfl
  have HXX := Lib.hid hx
  clear hask hroom IH hk hx
  generalize L.one (.mk qk qt ql qh qkids qn qx) s = o2 at *
  generalize manyB L h (.mk qk qt ql qh qkids qn qx) (m : Int) mx s = MB at *
  simp only [List.length_singleton] at *
  go_enter Try.func71, Try.ntmps71
  have w4 := (OB.out.cell 4).trans rfl
  simp only [List.getElem?_cons_zero, List.getElem?_cons_succ] at w4
  go_upto_region 1 with fail
  generalize w.alloc (.cells #[.int .i64 6, .string t, .slice A lo.length ca, .slice B hi.length cb, .slice (some ⟨b, off, none⟩) 1 kc, .int .i64 (m : Int), .int .i64 mx] 88) = W at *
  go_wp2_with fail
  refine HC.out.mono ?_
  rintro e w2 ⟨rfl, A2, c2, z2, hp2⟩
  have HP2 := Lib.hid hp2
  have y5 : w2.cell? ⟨w.heap.size, 5, none⟩ = some (.int .i64 (m : Int)) := ((hp2.f.own HM.out.o OB.out (by decide) (by decide)).cell 5).trans rfl
  have y6 : w2.cell? ⟨w.heap.size, 6, none⟩ = some (.int .i64 mx) := ((hp2.f.own HM.out.o OB.out (by decide) (by decide)).cell 6).trans rfl
  have hw2 : W.heap.size ≤ w2.heap.size := hp2.f.size
  have HB2 := Lib.hid (below_box (w := w2) (.cells #[.int .i64 o2.1.head, .int .i64 o2.1.low, .int .i64 o2.1.high] 49))
  have OX0 := Own.new w2 49 #[.int .i64 o2.1.head, .int .i64 o2.1.low, .int .i64 o2.1.high]
  replace y5 := cell_keep HB2.out y5
  replace y6 := cell_keep HB2.out y6
  have HS2 : Hid ((w2.alloc (.cells #[.int .i64 o2.1.head, .int .i64 o2.1.low, .int .i64 o2.1.high] 49)).heap.size = w2.heap.size + 1) := by show _ = _; simp
  have OX := Lib.hid OX0
  clear hp2 p0 p1 p2 p3 p4 p5 p6 OX0 HC w4
  go_wp2_with fail
  generalize w2.alloc (.cells #[.int .i64 o2.1.head, .int .i64 o2.1.low, .int .i64 o2.1.high] 49) = W2 at *
  have HY5 := Lib.hid y5
  have HY6 := Lib.hid y6
  clear y5 y6
  go_loopw [7, 8] (fun o i wr => ∃ k : Nat, k ≤ m ∧ i = .int .i64 k ∧ (∃ g cp, o = .slice (some ⟨g, 0, none⟩) k cp ∧ Hid (wr.ownsRow W2.heap.size 49 3 (.slice (some ⟨g, 0, none⟩) k cp) k (symCells (List.replicate k o2.1)))) ∧ Hid (Below W2.heap.size W2 wr)) (fun _ i _ => m - (intOf i).toNat)
  case atStart =>
    refine ⟨0, Nat.zero_le _, rfl, ⟨_, _, rfl, ?_⟩, below_box _⟩
    have := own_empty W2 49 3 W2.heap.size (Nat.le_refl _)
    rw [HS2.out] at this ⊢
    exact this
  case round =>
    obtain ⟨k, hk, rfl, ⟨g, cp, rfl, HROW⟩, HB⟩ := hrel
    have y5 := cell_keep HB.out HY5.out
    have OXr := OX.out.keep HB.out
    have v0 := (OXr.cell 0).trans rfl
    have v1 := (OXr.cell 1).trans rfl
    have v2 := (OXr.cell 2).trans rfl
    simp only [List.getElem?_cons_zero, List.getElem?_cons_succ] at v0 v1 v2
    have hwW : W2.heap.size ≤ wr.heap.size := HB.out.size
    clear OXr
    by_cases hlt : k < m
    · have hlt' : (k : Int) < (m : Int) := by omega
      have HRO := Lib.hid (own_keep HROW.out (below_box (.cells #[.int .i64 o2.1.head, .int .i64 o2.1.low, .int .i64 o2.1.high] 49)))
      go_wp2_with (at_builtin; refine wpList_append_own_at _ rfl _ _ 44 rfl W2.heap.size 49 i0 (.agg #[.int .i64 0, .int .i64 0, .int .i64 0]) 3 24 Try.underlying44 HI.out.1 HI.out.2.1 HI.out.2.2.1 HI.out.2.2.2 rfl (by decide) _ _ (symCells (List.replicate k o2.1)) rfl HRO.out ⟨wr.heap.size, 0, none⟩ 1 1 [.int .i64 o2.1.head, .int .i64 o2.1.low, .int .i64 o2.1.high] rfl rfl (new3 wr _ _ _) ?c2 ?c3 ?c4 ?c5 ?_)
      case c2 => intro u hu; simp at hu; rcases hu with rfl | rfl | rfl <;> rfl
      case c3 => unfold maxLen; omega
      case c4 => omega
      case c5 => simp; omega
      intro v' w4 hown' hgrow _ hblk
      obtain ⟨g4, c4, rfl, _, _⟩ := own_some hown' (by omega)
      have HB4 : Hid (Below W2.heap.size W2 w4) := (HB.out.alloc HB.out.size _).grown hgrow (by simp; omega) (fun k hk => (HROW.out.lt k hk).1)
      have HRO4 : Hid (w4.ownsRow W2.heap.size 49 3 (.slice (some ⟨g4, 0, none⟩) (k + 1) c4) (k + 1) (symCells (List.replicate (k + 1) o2.1))) := by
        show w4.ownsRow _ _ _ _ _ _
        rw [List.replicate_succ', symCells_append]
        exact hown'
      clear hown' hgrow hblk HRO HROW HB v0 v1 v2 y5
      go_wp2
      go_roundw
      case rel => exact ⟨k + 1, by omega, by go_num, ⟨g4, c4, rfl, HRO4⟩, HB4⟩
      case measure => simp [intOf]; omega
    · have hlt' : ¬ (k : Int) < (m : Int) := by omega
      have hkm : k = m := by omega
      subst hkm
      have y6 := cell_keep HB.out HY6.out
      have HP3 := Lib.hid ((HP2.out.then_ HB2.out).then_ HB.out)
      have hg := (HROW.out.lt g rfl)
      have HZ : Hid (∀ z ∈ z2, ∀ b, z.sl.ownBlock = some b → b < W2.heap.size) := fun z hz b hb => by
        have := HP2.out.k.low z (List.mem_append_right _ hz) b hb
        have := HS2.out
        omega
      have hW2 : W.heap.size ≤ W2.heap.size := by have := HS2.out; omega
      obtain ⟨hr1, hr2⟩ := HRM.out
      have hx := HXX.out
      subst hx
      clear HXX
      obtain ⟨σ, hσ⟩ : ∃ σ, o2.2.heads = σ := ⟨_, rfl⟩
      have HF := Lib.hid (fresh_any w0 mb rv o2.2 A2 c2 (xs ++ z2) wr HP3.out.k (by omega))
      have HFL : Hid (o2.2.fresh.list.length ≤ 600000) := by show _ ≤ _; simp only [Mk.fresh]; exact hr2
      rw [hσ] at HF
      have HSG := Lib.hid hσ
      clear hσ
      go_wp2_with fail
      refine HF.out.mono ?_
      rintro e w5 ⟨rfl, hp5⟩
      have HP5 := HP3.out.trans hp5
      rw [List.append_nil] at HP5
      have HP5' := Lib.hid HP5
      have HR5 := Lib.hid (hp5.f.row HP3.out.k.o HROW.out)
      have OX5 := Lib.hid (hp5.f.own HP3.out.k.o (OX.out.keep HB.out) (by decide) (by decide))
      have hw5 : wr.heap.size ≤ w5.heap.size := hp5.f.size
      have hw05 : w0.heap.size ≤ w5.heap.size := HP5.k.b.size
      have HLO5 := Lib.hid HP5.k.low
      have HB6 := Lib.hid (below_box (w := w5) (.cells #[] 49))
      have HK6 := Lib.hid (HP5.k.keep HB6.out)
      have HPUT1 := put_any σ [] (some ⟨w5.heap.size, 0, none⟩) 0 w0 mb rv o2.2.fresh A2 c2 (xs ++ z2) _ HK6.out (by have := HFL.out; omega) (own_empty w5 49 3 w0.heap.size hw05) (fun i hi b hb e => by have := HLO5.out _ (List.getElem_mem hi) b hb; have : w5.heap.size = b := (by simpa [Value.ownBlock] using e); omega)
      rw [List.length_nil] at HPUT1
      have HPUT1' := Lib.hid HPUT1
      clear hp5 HP5 HPUT1 HF HP3 HROW HY5 HY6 y6 v0 v1 v2
      go_wp2_with fail
      refine HPUT1'.out.mono ?_
      rintro e w6 ⟨rfl, A6, c6, hm6, hf6⟩
      have HP6 := Lib.hid ((HP5'.out.then_ HB6.out).putx hm6 hf6 (fun b hb => by have : w5.heap.size = b := (by simpa [Pv.sl, Value.ownBlock] using hb); omega))
      have HR6 := Lib.hid (hf6.row HK6.out.o (own_keep HR5.out HB6.out))
      have OX6 := Lib.hid (hf6.own HK6.out.o (OX5.out.keep HB6.out) (by decide) (by decide))
      have hw6 : w5.heap.size + 1 ≤ w6.heap.size := by have := hf6.size; simpa using this
      have hw06 : w0.heap.size ≤ w6.heap.size := by omega
      have HLO6 := Lib.hid HP6.out.k.low
      have v0 := (OX6.out.cell 0).trans rfl
      have v1 := (OX6.out.cell 1).trans rfl
      have v2 := (OX6.out.cell 2).trans rfl
      simp only [List.getElem?_cons_zero, List.getElem?_cons_succ] at v0 v1 v2
      have HB7 := Lib.hid (below_box (w := w6) (.cells #[.int .i64 o2.1.head, .int .i64 o2.1.low, .int .i64 o2.1.high, .int .i64 (σ : Int), .int .i64 0, .int .i64 0] 49))
      have HK7 := Lib.hid (HP6.out.k.keep HB7.out)
      have HPUT2 := put_any σ [o2.1, headSy σ] (some ⟨w6.heap.size, 0, none⟩) 2 w0 mb rv _ A6 c6 (xs ++ (z2 ++ [⟨⟨(σ : Int), []⟩, some ⟨w5.heap.size, 0, none⟩, 0⟩])) _ HK7.out (by rw [put_list]; have := HFL.out; omega) (own_new w6 49 3 w0.heap.size 2 (symCells [o2.1, headSy σ]) hw06 rfl (by decide)) (fun i hi b hb e => by have := HLO6.out _ (List.getElem_mem hi) b hb; have : w6.heap.size = b := (by simpa [Value.ownBlock] using e); omega)
      have HPUT2' : Hid (Calls Try.prog 69 #[.pointer (some ⟨mb, 0, none⟩), .int .i64 (σ : Int), .slice (some ⟨w6.heap.size, 0, none⟩) 2 2] (w6.alloc (.cells #[.int .i64 o2.1.head, .int .i64 o2.1.low, .int .i64 o2.1.high, .int .i64 (σ : Int), .int .i64 0, .int .i64 0] 49)) _) := HPUT2
      clear hm6 hf6 HPUT1' HPUT2 HK6 HR5 OX5
      go_wp2_with fail
      refine HPUT2'.out.mono ?_
      rintro e w7 ⟨rfl, A7, c7', hm7, hf7⟩
      have HP7 := Lib.hid ((HP6.out.then_ HB7.out).putx hm7 hf7 (fun b hb => by have : w6.heap.size = b := (by simpa [Pv.sl, Value.ownBlock] using hb); omega))
      have HR7 := Lib.hid (hf7.row HK7.out.o (own_keep HR6.out HB7.out))
      have hw7 : w6.heap.size + 1 ≤ w7.heap.size := by have := hf7.size; simpa using this
      have HB8 := Lib.hid (below_box (w := w7) (.cells #[.int .i64 (σ : Int), .int .i64 0, .int .i64 0] 49))
      have HP8 := Lib.hid (HP7.out.then_ HB8.out)
      have HR8 := Lib.hid (own_keep HR7.out HB8.out)
      have HAP : Hid (∀ z ∈ z2 ++ [(⟨⟨(σ : Int), []⟩, some ⟨w5.heap.size, 0, none⟩, 0⟩ : Pv)] ++ [⟨⟨(σ : Int), [o2.1, headSy σ]⟩, some ⟨w6.heap.size, 0, none⟩, 2⟩], ∀ b, z.sl.ownBlock = some b → (Value.slice (some ⟨g, 0, none⟩) k cp).ownBlock ≠ some b) := fun z hz b hb e => by
        have e' : g = b := by simpa [Value.ownBlock] using e
        rcases List.mem_append.1 hz with hz | hz
        · rcases List.mem_append.1 hz with hz | hz
          · have := HZ.out z hz b hb
            omega
          · rw [List.mem_singleton] at hz
            subst hz
            have : w5.heap.size = b := by simpa [Pv.sl, Value.ownBlock] using hb
            omega
        · rw [List.mem_singleton] at hz
          subst hz
          have : w6.heap.size = b := by simpa [Pv.sl, Value.ownBlock] using hb
          omega
      clear hm7 hf7 HPUT2' HK7 HR6 OX6 v0 v1 v2
      go_wp2_with (at_builtin; refine wpList_append_own_at _ rfl _ _ 44 rfl W2.heap.size 49 i0 (.agg #[.int .i64 0, .int .i64 0, .int .i64 0]) 3 24 Try.underlying44 HI.out.1 HI.out.2.1 HI.out.2.2.1 HI.out.2.2.2 rfl (by decide) _ _ (symCells (List.replicate k o2.1)) rfl HR8.out ⟨w7.heap.size, 0, none⟩ 1 1 [.int .i64 (σ : Int), .int .i64 0, .int .i64 0] rfl rfl (new3 w7 _ _ _) ?c2 ?c3 ?c4 ?c5 ?_)
      case c2 => intro u hu; simp at hu; rcases hu with rfl | rfl <;> rfl
      case c3 => unfold maxLen; omega
      case c4 => omega
      case c5 => simp; omega
      intro v' w9 hown' hgrow _ hblk
      obtain ⟨g9, c9, rfl, hg9, _⟩ := own_some hown' (by omega)
      have HP9 := Lib.hid (HP8.out.grow (own_base HR8.out hW2) HAP.out HM.out.low HM.out.b.size hgrow)
      have HAP9 := Lib.hid (apart_grow HAP.out (fun z hz b hb => HP8.out.k.low z (List.mem_append_right _ hz) b hb) (by rw [World.size_alloc]; exact hblk))
      have HR9 : Hid (w9.ownsRow W2.heap.size 49 3 (.slice (some ⟨g9, 0, none⟩) (k + 1) c9) (List.replicate k o2.1 ++ [headSy σ]).length (symCells (List.replicate k o2.1 ++ [headSy σ]))) := by
        show w9.ownsRow _ _ _ _ _ _
        rw [symCells_append, List.length_append, List.length_replicate]
        exact hown'
      have hlr : (List.replicate k o2.1 ++ [headSy σ]).length = k + 1 := by simp
      have HPUT3 := put_any h (List.replicate k o2.1 ++ [headSy σ]) (some ⟨g9, 0, none⟩) c9 w0 mb rv _ A7 c7' _ w9 HP9.out.k (by rw [put_list, put_list]; have := HFL.out; omega) (by rw [hlr] at HR9 ⊢; exact own_base HR9.out (by have := HM.out.b.size; omega)) (by rw [hlr]; exact apart_all HM.out.low (fun b hb => by have : g9 = b := (by simpa [Value.ownBlock] using hb); omega) HAP9.out)
      rw [hlr] at HPUT3
      have HPUT3' := Lib.hid HPUT3
      clear hown' hgrow hblk HPUT3 HR9 hlr HR8 HP8 HAP
      go_wp2_with fail
      refine HPUT3'.out.mono ?_
      rintro e w10 ⟨rfl, A10, c10, hm10, hf10⟩
      have FIN := MkP.after HBX.out (HP9.out.putx hm10 hf10 (fun b hb => by have : g9 = b := (by simpa [Pv.sl, Value.ownBlock] using hb); omega))
      have EMB : MB = ((o2.2.fresh.put σ []).put σ [o2.1, headSy σ]).put h (List.replicate k o2.1 ++ [headSy σ]) := by
        rw [HMB.out, ← HSG.out]
        rfl
      rw [← EMB] at FIN
      have FIN' := Lib.hid FIN
      clear hm10 hf10 FIN EMB
      go_wp2
      refine bodyPost_ret (results_none rfl _ _ _) rfl ?_
      exact ⟨rfl, A10, c10, _, FIN'.out⟩

end Go.Proofs.Ytkgiklmdpdakbaa

