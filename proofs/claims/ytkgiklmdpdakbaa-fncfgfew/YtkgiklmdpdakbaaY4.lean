/- A part is drawn: l71Part. -/
import Derived.Test.YtkgiklmdpdakbaaY3
namespace Go.Proofs.Ytkgiklmdpdakbaa
open Go.RowKit
set_option linter.unusedVariables false

/-- The result's block alone. -/
structure RS (w0 : World) (B g N : Nat) (w : World) : Prop where
  r : Own w w0.heap.size 88 (c7 0 ⟨#[]⟩ none 0 0 none 0 0 none 0 0 0 0)
  rd : Rd w B g N
  fr : w0.grownBy w (some g)
  hB : B ≤ w0.heap.size
section
variable {w0 w w' : World} {B g N N' : Nat}
theorem RS.size (h : RS w0 B g N w) : w0.heap.size + 1 ≤ w.heap.size := by have := h.r.lt; omega
theorem RS.g_lt (h : RS w0 B g N w) : g < w0.heap.size := by have := h.rd.ltB; have := h.hB; omega
theorem RS.touch (h : RS w0 B g N w) (hg : w.grownBy w' (some g)) (hr : Rd w' B g N') : RS w0 B g N' w' := ⟨own_touch h.r hg (by have := h.g_lt; omega), hr, only_trans h.fr hg, h.hB⟩
theorem RS.alloc (h : RS w0 B g N w) (o : Obj) : RS w0 B g N (w.alloc o) := ⟨h.r.alloc o, h.rd.alloc (by have := h.size; have := h.hB; omega) o, only_alloc h.fr o, h.hB⟩
theorem RS.drew (h : RS w0 B g N w) : RS w0 B g N w.drew := ⟨h.r.drew, h.rd.drew, ⟨h.fr.os, h.fr.tape, h.fr.output, h.fr.size, h.fr.block⟩, h.hB⟩
theorem RS.setCell (h : RS w0 B g N w) {p : Addr} (hp : w0.heap.size < p.block) (u : Value) : RS w0 B g N (w.setCell p u) :=
  ⟨h.r.far (by omega) u, h.rd.setCell (by have := h.hB; omega) u, ⟨h.fr.os, h.fr.tape, h.fr.output, by simpa [World.setCell] using h.fr.size, fun i hi hne => (Below.heap_setCell _ _ _ i (by omega)).trans (h.fr.block i hi hne)⟩, h.hB⟩
theorem RS.mono (h : RS w0 B g N w) (hN : N ≤ N') : RS w0 B g N' w := ⟨h.r, h.rd.mono (Nat.le_refl _) hN, h.fr, h.hB⟩
theorem RS.start (hr : Rd w B g N) (hB : B ≤ w.heap.size) : RS w B g N (w.alloc (.cells #[.int .i64 0, .string ⟨#[]⟩, .slice none 0 0, .slice none 0 0, .slice none 0 0, .int .i64 0, .int .i64 0] 88)) :=
  ⟨by simpa [c7] using Own.new w 88 #[.int .i64 0, .string ⟨#[]⟩, .slice none 0 0, .slice none 0 0, .slice none 0 0, .int .i64 0, .int .i64 0], hr.alloc hB _, only_alloc (only_of_below (Below.refl _ _) (Nat.le_refl _) _) _, hB⟩
theorem RS.done {d M : Nat} {k : Int} {t : ByteArray} {lo hi : List Int} {kids : List Pt} {mn mx : Int} {A C K : Option Addr} {ca cc kc : Nat} (h : RS w0 B g M w) (hM : M ≤ N + cost d) (hT : TopP w (w0.heap.size + 1) lo hi kids A C K ca cc kc)
    (hL : Lim 1000 (.mk k t lo hi kids mn mx)) (hk : kids.length ≤ 3 ^ d) (h5 : k = 5 → 2 ≤ kids.length) :
    PartPost w0 B g N d (.returned (.agg (c7 k t A lo.length ca C hi.length cc K kids.length kc mn mx).toArray))
      (((((((w.setCell ⟨w0.heap.size, 0, none⟩ (.int .i64 k)).setCell ⟨w0.heap.size, 1, none⟩ (.string t)).setCell ⟨w0.heap.size, 2, none⟩ (.slice A lo.length ca)).setCell ⟨w0.heap.size, 3, none⟩ (.slice C hi.length cc)).setCell ⟨w0.heap.size, 4, none⟩ (.slice K kids.length kc)).setCell ⟨w0.heap.size, 5, none⟩ (.int .i64 mn)).setCell ⟨w0.heap.size, 6, none⟩ (.int .i64 mx)) := by
  refine ⟨k, t, lo, hi, kids, mn, mx, A, C, K, ca, cc, kc, rfl, (hT.keep fun b hb _ => seven_other _ _ _ _ _ _ _ b (by omega)).low (by omega), hL, hk, h5, ?_, ?_⟩
  · exact (h.rd.keep fun b hb => seven_other _ _ _ _ _ _ _ b (by have := h.hB; omega)).mono (Nat.le_refl _) hM
  · exact seven_grown h.fr (Nat.le_refl _) _ _ _ _ _ _ _
end

theorem lim_bare (k : Int) (t : ByteArray) (mn mx : Int) (h : t.size ≤ 1000) : Lim 1000 (.mk k t [] [] [] mn mx) := .mk k t [] [] [] mn mx h (by simp) (by simp) (by simp) (by simp)
theorem lim_kids (k : Int) (kids : List Pt) (mn mx : Int) (hk : kids.length ≤ 1000) (h : ∀ p ∈ kids, Lim 1000 p) : Lim 1000 (.mk k ⟨#[]⟩ [] [] kids mn mx) := .mk k ⟨#[]⟩ [] [] kids mn mx (by decide) (by simp) (by simp) hk h
theorem pow_le (d : Nat) (h : d ≤ 5) : 3 ^ d ≤ 243 := Nat.pow_le_pow_right (by decide) h

theorem KR.keepX {w w' : World} {s : Nat} {X : Nat → Prop} {v : Value} {kids : List Pt} (h : KR w s X v kids) (hb : ∀ b, s ≤ b → b < w.heap.size → v.ownBlock = some b ∨ X b → w'.heap[b]? = w.heap[b]?) : KR w' s X v kids := by
  obtain ⟨css, h, hk⟩ := h
  exact ⟨css, own_same h fun b hb' => hb b (h.lt b hb').1 (h.lt b hb').2 (.inl hb'), fun i hi => (hk i hi).mv fun b hb' hl => hb b hb'.1 hl (.inr hb'.2.2)⟩
/-- A repetition under way. -/
structure MS (w0 : World) (B g N P R0 : Nat) (kid : Pt) (mn mx : Int) (w : World) : Prop where
  p : Own w P 88 (c7 6 ⟨#[]⟩ none 0 0 none 0 0 (some ⟨R0, 0, none⟩) 1 1 mn mx)
  k : KR w (w0.heap.size + 1) (fun b => b ≠ P) (.slice (some ⟨R0, 0, none⟩) 1 1) [kid]
  ne : R0 ≠ P
  hP : w0.heap.size < P
  rs : RS w0 B g N w
section
variable {w0 w w' : World} {B g N N' P R0 : Nat} {kid : Pt} {mn mx : Int}
theorem MS.touch (h : MS w0 B g N P R0 kid mn mx w) (hg : w.grownBy w' (some g)) (hr : Rd w' B g N') : MS w0 B g N' P R0 kid mn mx w' :=
  ⟨own_touch h.p hg (by have := h.rs.g_lt; have := h.hP; omega), h.k.keep fun b hb hl => hg.block b hl (fun e => by injection e with e; have := h.rs.g_lt; omega), h.ne, h.hP, h.rs.touch hg hr⟩
theorem MS.drew (h : MS w0 B g N P R0 kid mn mx w) : MS w0 B g N P R0 kid mn mx w.drew := ⟨h.p.drew, h.k.keep fun _ _ _ => rfl, h.ne, h.hP, h.rs.drew⟩
theorem MS.set5 (h : MS w0 B g N P R0 kid mn mx w) (x : Int) : MS w0 B g N P R0 kid x mx (w.setCell ⟨P, 5, none⟩ (.int .i64 x)) :=
  ⟨h.p.set_ 5 _, h.k.keepX fun b _ _ hb => Below.heap_setCell _ _ _ b (hb.elim (fun hb => by injection hb with hb; have := h.ne; simp only at hb ⊢; omega) id), h.ne, h.hP, h.rs.setCell h.hP _⟩
theorem MS.set6 (h : MS w0 B g N P R0 kid mn mx w) (x : Int) : MS w0 B g N P R0 kid mn x (w.setCell ⟨P, 6, none⟩ (.int .i64 x)) :=
  ⟨h.p.set_ 6 _, h.k.keepX fun b _ _ hb => Below.heap_setCell _ _ _ b (hb.elim (fun hb => by injection hb with hb; have := h.ne; simp only at hb ⊢; omega) id), h.ne, h.hP, h.rs.setCell h.hP _⟩
theorem MS.start {w1 : World} {lo hi : List Int} {kids : List Pt} {A C K : Option Addr} {ca cc kc : Nat} (h : RS w0 B g N w) (hT : TopP w w1.heap.size lo hi kids A C K ca cc kc) (h1 : w0.heap.size + 1 ≤ w1.heap.size) (h2 : w1.heap.size ≤ w.heap.size) (k : Int) (t : ByteArray) (mn mx : Int) :
    MS w0 B g N (w.heap.size + 1) w.heap.size (.mk k t lo hi kids mn mx) 0 (-1) ((w.alloc (.cells (c7 k t A lo.length ca C hi.length cc K kids.length kc mn mx).toArray 88)).alloc (.cells #[.int .i64 6, .string ⟨#[]⟩, .slice none 0 0, .slice none 0 0, .slice (some ⟨w.heap.size, 0, none⟩) 1 1, .int .i64 0, .int .i64 (-1)] 88)) := by
  have hs := h.size
  refine ⟨by simpa [c7] using Own.new (w.alloc (.cells (c7 k t A lo.length ca C hi.length cc K kids.length kc mn mx).toArray 88)) 88 #[.int .i64 6, .string ⟨#[]⟩, .slice none 0 0, .slice none 0 0, .slice (some ⟨w.heap.size, 0, none⟩) 1 1, .int .i64 0, .int .i64 (-1)], ?_, by omega, by omega, (h.alloc _).alloc _⟩
  refine ⟨c7 k t A lo.length ca C hi.length cc K kids.length kc mn mx, (own_new w 88 7 (w0.heap.size + 1) 1 _ hs rfl (by simp [maxLen])).alloc _, fun i hi => ?_⟩
  have e : i = 0 := by simpa using hi
  subst e
  rw [sev_one rfl]
  refine (hT.ptC k t mn mx).mv' fun b hb hl => ⟨(Below.heap_alloc _ _ b (by rw [World.size_alloc]; omega)).trans (Below.heap_alloc w _ b hl), by omega, fun e => ?_, by omega⟩
  injection e with e
  simp only at e
  omega
end

set_option maxRecDepth 100000 in
set_option maxHeartbeats 4000000 in
theorem part_step (d : Nat) (hd0 : 1 ≤ d) (hd5 : d ≤ 5) (IH : ∀ d', d' + 1 = d → 1 ≤ d' → PartD d') : PartD d := by
  intro B g N A c ns w hrd hB hN hnm
  have HL := RS.start hrd hB
  have HNM := Lib.hid hnm
  have HIH := Lib.hid IH
  have hc1 : 100 ≤ cost d := by unfold cost; have : 4 ^ 1 ≤ 4 ^ d := Nat.pow_le_pow_right (by decide) hd0; omega
  have HP3 := Lib.hid (pow_le d hd5)
  clear hrd hnm IH
  go_enter Try.func52, Try.ntmps52
  go_wp2_with fail
  refine (pick_any B g N 10 _ HL.rd (by omega) (by omega) (by omega)).mono ?_
  rintro e w1 ⟨v, rfl, hv0, hv1, hrd1, hg1⟩
  replace HL := HL.touch hg1 hrd1
  clear hrd1 hg1
  have hv2 : v ≤ 9 := by rcases hv1 with h | h <;> omega
  clear hv1
  by_cases hd2 : d < 2
  · have hd2' : (d : Int) < 2 := by omega
    go_upto_if 16 with fail
    go_cut [7] (fun kv wx => ∃ k : Int, kv = .int .i64 k ∧ 0 ≤ k ∧ k ≤ 5 ∧ RS w B g (N + 2) wx)
    case first =>
      by_cases hk5 : 5 < v
      · go_wp2_with fail
        refine (pick_any B g _ 6 _ HL.rd (by omega) (by omega) (by omega)).mono ?_
        rintro e w2 ⟨u, rfl, hu0, hu1, hrd1, hg1⟩
        go_wp2_with fail
        go_meet
        exact ⟨u, rfl, hu0, by rcases hu1 with h | h <;> omega, HL.touch hg1 hrd1⟩
      · go_wp2_with fail
        go_meet
        exact ⟨v, rfl, hv0, by omega, HL.mono (by omega)⟩
    case rest =>
      clear HL
      obtain ⟨k, rfl, hk0, hk5, HL⟩ := hcut
      have hk : k = 0 ∨ k = 1 ∨ k = 2 ∨ k = 3 ∨ k = 4 ∨ k = 5 := by omega
      clear hk0 hk5
      rcases hk with rfl | rfl | rfl | rfl | rfl | rfl
      · go_wp2_with fail
        refine (bytes_any B g _ 3 _ HL.rd (by have := HL.hB; have := HL.size; omega) (by omega) (by omega) (by omega)).mono ?_
        rintro e w3 ⟨s, rfl, hs, hrd3, hg3⟩
        replace HL := HL.touch hg3 hrd3
        clear hrd3 hg3
        obtain ⟨r0, r1, r2, r3, r4, r5, r6⟩ := c7_cells HL.r
        have f0 := HL.r.frozen 0
        have f1 := HL.r.frozen 1
        have f2 := HL.r.frozen 2
        have f3 := HL.r.frozen 3
        have f4 := HL.r.frozen 4
        have f5 := HL.r.frozen 5
        have f6 := HL.r.frozen 6
        try simp only [c7]
        go_wp2
        obtain ⟨q0, q1, q2, q3, q4, q5, q6⟩ := c7_cells (seven_cell (k' := 1) (t' := s) (A' := none) (la' := 0) (ca' := 0) (C' := none) (lb' := 0) (cb' := 0) (K' := none) (lk' := 0) (kc' := 0) (mn' := 0) (mx' := 0) HL.r)
        exact bodyPost_ret (v := .agg (c7 1 s none 0 0 none 0 0 none 0 0 0 0).toArray) (by simp [results, Try.results52, go_sem, q0, q1, q2, q3, q4, q5, q6, c7]) rfl (HL.done (kids := []) (lo := []) (hi := []) (by omega) (TopP.bare _ _) (lim_bare 1 s 0 0 (by omega)) (by simp) (by simp))
      · go_wp2_with fail
        refine (bytes_any B g _ 3 _ HL.rd (by have := HL.hB; have := HL.size; omega) (by omega) (by omega) (by omega)).mono ?_
        rintro e w3 ⟨s, rfl, hs, hrd3, hg3⟩
        replace HL := HL.touch hg3 hrd3
        clear hrd3 hg3
        obtain ⟨r0, r1, r2, r3, r4, r5, r6⟩ := c7_cells HL.r
        have f0 := HL.r.frozen 0
        have f1 := HL.r.frozen 1
        have f2 := HL.r.frozen 2
        have f3 := HL.r.frozen 3
        have f4 := HL.r.frozen 4
        have f5 := HL.r.frozen 5
        have f6 := HL.r.frozen 6
        try simp only [c7]
        go_wp2
        obtain ⟨q0, q1, q2, q3, q4, q5, q6⟩ := c7_cells (seven_cell (k' := 1) (t' := s) (A' := none) (la' := 0) (ca' := 0) (C' := none) (lb' := 0) (cb' := 0) (K' := none) (lk' := 0) (kc' := 0) (mn' := 0) (mx' := 0) HL.r)
        exact bodyPost_ret (v := .agg (c7 1 s none 0 0 none 0 0 none 0 0 0 0).toArray) (by simp [results, Try.results52, go_sem, q0, q1, q2, q3, q4, q5, q6, c7]) rfl (HL.done (kids := []) (lo := []) (hi := []) (by omega) (TopP.bare _ _) (lim_bare 1 s 0 0 (by omega)) (by simp) (by simp))
      · go_wp2_with fail
        refine (bytes_any B g _ 3 _ HL.rd (by have := HL.hB; have := HL.size; omega) (by omega) (by omega) (by omega)).mono ?_
        rintro e w3 ⟨s, rfl, hs, hrd3, hg3⟩
        replace HL := HL.touch hg3 hrd3
        clear hrd3 hg3
        obtain ⟨r0, r1, r2, r3, r4, r5, r6⟩ := c7_cells HL.r
        have f0 := HL.r.frozen 0
        have f1 := HL.r.frozen 1
        have f2 := HL.r.frozen 2
        have f3 := HL.r.frozen 3
        have f4 := HL.r.frozen 4
        have f5 := HL.r.frozen 5
        have f6 := HL.r.frozen 6
        try simp only [c7]
        go_wp2
        obtain ⟨q0, q1, q2, q3, q4, q5, q6⟩ := c7_cells (seven_cell (k' := 1) (t' := s) (A' := none) (la' := 0) (ca' := 0) (C' := none) (lb' := 0) (cb' := 0) (K' := none) (lk' := 0) (kc' := 0) (mn' := 0) (mx' := 0) HL.r)
        exact bodyPost_ret (v := .agg (c7 1 s none 0 0 none 0 0 none 0 0 0 0).toArray) (by simp [results, Try.results52, go_sem, q0, q1, q2, q3, q4, q5, q6, c7]) rfl (HL.done (kids := []) (lo := []) (hi := []) (by omega) (TopP.bare _ _) (lim_bare 1 s 0 0 (by omega)) (by simp) (by simp))
      · go_wp2_with fail
        refine (class_any B g _ _ HL.rd (by have := HL.hB; have := HL.size; omega) (by omega)).mono ?_
        rintro e w3 ⟨lo, hi, LA, LC, la, lc, rfl, hlo, hhi, hT, hrd3, hg3⟩
        have HT := Lib.hid (hT.low HL.size)
        replace HL := HL.touch hg3 hrd3
        clear hrd3 hg3 hT
        obtain ⟨r0, r1, r2, r3, r4, r5, r6⟩ := c7_cells HL.r
        have f0 := HL.r.frozen 0
        have f1 := HL.r.frozen 1
        have f2 := HL.r.frozen 2
        have f3 := HL.r.frozen 3
        have f4 := HL.r.frozen 4
        have f5 := HL.r.frozen 5
        have f6 := HL.r.frozen 6
        try simp only [c7]
        go_wp2
        obtain ⟨q0, q1, q2, q3, q4, q5, q6⟩ := c7_cells (seven_cell (k' := 2) (t' := ⟨#[]⟩) (A' := LA) (la' := lo.length) (ca' := la) (C' := LC) (lb' := hi.length) (cb' := lc) (K' := none) (lk' := 0) (kc' := 0) (mn' := 0) (mx' := 0) HL.r)
        exact bodyPost_ret (v := .agg (c7 2 ⟨#[]⟩ LA lo.length la LC hi.length lc none 0 0 0 0).toArray) (by simp [results, Try.results52, go_sem, q0, q1, q2, q3, q4, q5, q6, c7]) rfl (HL.done (kids := []) (by omega) HT.out (.mk 2 ⟨#[]⟩ lo hi [] 0 0 (by decide) (by omega) (by omega) (by simp) (by simp)) (by simp) (by simp))
      · have hn4 := HNM.out.2.1
        have hn0 := HNM.out.1
        have HSB := Lib.hid HNM.out.2.2.1
        go_wp2_with fail
        refine (pick_any B g _ ns.length _ HL.rd (by omega) (by omega) (by omega)).mono ?_
        rintro e w3 ⟨x, rfl, hx0, hx1, hrd3, hg3⟩
        replace HL := HL.touch hg3 hrd3
        clear hrd3 hg3
        have hxn : x.toNat < ns.length := by rcases hx1 with h | h <;> omega
        have hxi : x < (ns.length : Int) := by omega
        obtain ⟨_, _, _, nb, no, rfl, _, hcell⟩ := HNM.out.touch HL.fr
        have nc := hcell x.toNat hxn
        have HSX : Hid (ns[x.toNat].size ≤ 10) := HSB.out _ (List.getElem_mem hxn)
        clear hcell hx1
        generalize ns[x.toNat] = s at *
        obtain ⟨r0, r1, r2, r3, r4, r5, r6⟩ := c7_cells HL.r
        have f0 := HL.r.frozen 0
        have f1 := HL.r.frozen 1
        have f2 := HL.r.frozen 2
        have f3 := HL.r.frozen 3
        have f4 := HL.r.frozen 4
        have f5 := HL.r.frozen 5
        have f6 := HL.r.frozen 6
        try simp only [c7]
        go_wp2
        obtain ⟨q0, q1, q2, q3, q4, q5, q6⟩ := c7_cells (seven_cell (k' := 3) (t' := s) (A' := none) (la' := 0) (ca' := 0) (C' := none) (lb' := 0) (cb' := 0) (K' := none) (lk' := 0) (kc' := 0) (mn' := 0) (mx' := 0) HL.r)
        exact bodyPost_ret (v := .agg (c7 3 s none 0 0 none 0 0 none 0 0 0 0).toArray) (by simp [results, Try.results52, go_sem, q0, q1, q2, q3, q4, q5, q6, c7]) rfl (HL.done (kids := []) (lo := []) (hi := []) (by omega) (TopP.bare _ _) (lim_bare 3 s 0 0 (by have := HSX.out; omega)) (by simp) (by simp))
      · have hn4 := HNM.out.2.1
        have hn0 := HNM.out.1
        have HSB := Lib.hid HNM.out.2.2.1
        go_wp2_with fail
        refine (pick_any B g _ ns.length _ HL.rd (by omega) (by omega) (by omega)).mono ?_
        rintro e w3 ⟨x, rfl, hx0, hx1, hrd3, hg3⟩
        replace HL := HL.touch hg3 hrd3
        clear hrd3 hg3
        have hxn : x.toNat < ns.length := by rcases hx1 with h | h <;> omega
        have hxi : x < (ns.length : Int) := by omega
        obtain ⟨_, _, _, nb, no, rfl, _, hcell⟩ := HNM.out.touch HL.fr
        have nc := hcell x.toNat hxn
        have HSX : Hid (ns[x.toNat].size ≤ 10) := HSB.out _ (List.getElem_mem hxn)
        clear hcell hx1
        generalize ns[x.toNat] = s at *
        obtain ⟨r0, r1, r2, r3, r4, r5, r6⟩ := c7_cells HL.r
        have f0 := HL.r.frozen 0
        have f1 := HL.r.frozen 1
        have f2 := HL.r.frozen 2
        have f3 := HL.r.frozen 3
        have f4 := HL.r.frozen 4
        have f5 := HL.r.frozen 5
        have f6 := HL.r.frozen 6
        try simp only [c7]
        go_wp2
        obtain ⟨q0, q1, q2, q3, q4, q5, q6⟩ := c7_cells (seven_cell (k' := 3) (t' := s) (A' := none) (la' := 0) (ca' := 0) (C' := none) (lb' := 0) (cb' := 0) (K' := none) (lk' := 0) (kc' := 0) (mn' := 0) (mx' := 0) HL.r)
        exact bodyPost_ret (v := .agg (c7 3 s none 0 0 none 0 0 none 0 0 0 0).toArray) (by simp [results, Try.results52, go_sem, q0, q1, q2, q3, q4, q5, q6, c7]) rfl (HL.done (kids := []) (lo := []) (hi := []) (by omega) (TopP.bare _ _) (lim_bare 3 s 0 0 (by have := HSX.out; omega)) (by simp) (by simp))
  · have hd2' : ¬ (d : Int) < 2 := by omega
    replace HL := HL.mono (show N + 1 ≤ N + 2 by omega)
    have hk : v = 0 ∨ v = 1 ∨ v = 2 ∨ v = 3 ∨ v = 4 ∨ v = 5 ∨ v = 6 ∨ v = 7 ∨ v = 8 ∨ v = 9 := by omega
    clear hv0 hv2
    rcases hk with rfl | rfl | rfl | rfl | rfl | rfl | rfl | rfl | rfl | rfl
    · go_wp2_with fail
      refine (bytes_any B g _ 3 _ HL.rd (by have := HL.hB; have := HL.size; omega) (by omega) (by omega) (by omega)).mono ?_
      rintro e w3 ⟨s, rfl, hs, hrd3, hg3⟩
      replace HL := HL.touch hg3 hrd3
      clear hrd3 hg3
      obtain ⟨r0, r1, r2, r3, r4, r5, r6⟩ := c7_cells HL.r
      have f0 := HL.r.frozen 0
      have f1 := HL.r.frozen 1
      have f2 := HL.r.frozen 2
      have f3 := HL.r.frozen 3
      have f4 := HL.r.frozen 4
      have f5 := HL.r.frozen 5
      have f6 := HL.r.frozen 6
      try simp only [c7]
      go_wp2
      obtain ⟨q0, q1, q2, q3, q4, q5, q6⟩ := c7_cells (seven_cell (k' := 1) (t' := s) (A' := none) (la' := 0) (ca' := 0) (C' := none) (lb' := 0) (cb' := 0) (K' := none) (lk' := 0) (kc' := 0) (mn' := 0) (mx' := 0) HL.r)
      exact bodyPost_ret (v := .agg (c7 1 s none 0 0 none 0 0 none 0 0 0 0).toArray) (by simp [results, Try.results52, go_sem, q0, q1, q2, q3, q4, q5, q6, c7]) rfl (HL.done (kids := []) (lo := []) (hi := []) (by omega) (TopP.bare _ _) (lim_bare 1 s 0 0 (by omega)) (by simp) (by simp))
    · go_wp2_with fail
      refine (bytes_any B g _ 3 _ HL.rd (by have := HL.hB; have := HL.size; omega) (by omega) (by omega) (by omega)).mono ?_
      rintro e w3 ⟨s, rfl, hs, hrd3, hg3⟩
      replace HL := HL.touch hg3 hrd3
      clear hrd3 hg3
      obtain ⟨r0, r1, r2, r3, r4, r5, r6⟩ := c7_cells HL.r
      have f0 := HL.r.frozen 0
      have f1 := HL.r.frozen 1
      have f2 := HL.r.frozen 2
      have f3 := HL.r.frozen 3
      have f4 := HL.r.frozen 4
      have f5 := HL.r.frozen 5
      have f6 := HL.r.frozen 6
      try simp only [c7]
      go_wp2
      obtain ⟨q0, q1, q2, q3, q4, q5, q6⟩ := c7_cells (seven_cell (k' := 1) (t' := s) (A' := none) (la' := 0) (ca' := 0) (C' := none) (lb' := 0) (cb' := 0) (K' := none) (lk' := 0) (kc' := 0) (mn' := 0) (mx' := 0) HL.r)
      exact bodyPost_ret (v := .agg (c7 1 s none 0 0 none 0 0 none 0 0 0 0).toArray) (by simp [results, Try.results52, go_sem, q0, q1, q2, q3, q4, q5, q6, c7]) rfl (HL.done (kids := []) (lo := []) (hi := []) (by omega) (TopP.bare _ _) (lim_bare 1 s 0 0 (by omega)) (by simp) (by simp))
    · go_wp2_with fail
      refine (bytes_any B g _ 3 _ HL.rd (by have := HL.hB; have := HL.size; omega) (by omega) (by omega) (by omega)).mono ?_
      rintro e w3 ⟨s, rfl, hs, hrd3, hg3⟩
      replace HL := HL.touch hg3 hrd3
      clear hrd3 hg3
      obtain ⟨r0, r1, r2, r3, r4, r5, r6⟩ := c7_cells HL.r
      have f0 := HL.r.frozen 0
      have f1 := HL.r.frozen 1
      have f2 := HL.r.frozen 2
      have f3 := HL.r.frozen 3
      have f4 := HL.r.frozen 4
      have f5 := HL.r.frozen 5
      have f6 := HL.r.frozen 6
      try simp only [c7]
      go_wp2
      obtain ⟨q0, q1, q2, q3, q4, q5, q6⟩ := c7_cells (seven_cell (k' := 1) (t' := s) (A' := none) (la' := 0) (ca' := 0) (C' := none) (lb' := 0) (cb' := 0) (K' := none) (lk' := 0) (kc' := 0) (mn' := 0) (mx' := 0) HL.r)
      exact bodyPost_ret (v := .agg (c7 1 s none 0 0 none 0 0 none 0 0 0 0).toArray) (by simp [results, Try.results52, go_sem, q0, q1, q2, q3, q4, q5, q6, c7]) rfl (HL.done (kids := []) (lo := []) (hi := []) (by omega) (TopP.bare _ _) (lim_bare 1 s 0 0 (by omega)) (by simp) (by simp))
    · go_wp2_with fail
      refine (class_any B g _ _ HL.rd (by have := HL.hB; have := HL.size; omega) (by omega)).mono ?_
      rintro e w3 ⟨lo, hi, LA, LC, la, lc, rfl, hlo, hhi, hT, hrd3, hg3⟩
      have HT := Lib.hid (hT.low HL.size)
      replace HL := HL.touch hg3 hrd3
      clear hrd3 hg3 hT
      obtain ⟨r0, r1, r2, r3, r4, r5, r6⟩ := c7_cells HL.r
      have f0 := HL.r.frozen 0
      have f1 := HL.r.frozen 1
      have f2 := HL.r.frozen 2
      have f3 := HL.r.frozen 3
      have f4 := HL.r.frozen 4
      have f5 := HL.r.frozen 5
      have f6 := HL.r.frozen 6
      try simp only [c7]
      go_wp2
      obtain ⟨q0, q1, q2, q3, q4, q5, q6⟩ := c7_cells (seven_cell (k' := 2) (t' := ⟨#[]⟩) (A' := LA) (la' := lo.length) (ca' := la) (C' := LC) (lb' := hi.length) (cb' := lc) (K' := none) (lk' := 0) (kc' := 0) (mn' := 0) (mx' := 0) HL.r)
      exact bodyPost_ret (v := .agg (c7 2 ⟨#[]⟩ LA lo.length la LC hi.length lc none 0 0 0 0).toArray) (by simp [results, Try.results52, go_sem, q0, q1, q2, q3, q4, q5, q6, c7]) rfl (HL.done (kids := []) (by omega) HT.out (.mk 2 ⟨#[]⟩ lo hi [] 0 0 (by decide) (by omega) (by omega) (by simp) (by simp)) (by simp) (by simp))
    · have hn4 := HNM.out.2.1
      have hn0 := HNM.out.1
      have HSB := Lib.hid HNM.out.2.2.1
      go_wp2_with fail
      refine (pick_any B g _ ns.length _ HL.rd (by omega) (by omega) (by omega)).mono ?_
      rintro e w3 ⟨x, rfl, hx0, hx1, hrd3, hg3⟩
      replace HL := HL.touch hg3 hrd3
      clear hrd3 hg3
      have hxn : x.toNat < ns.length := by rcases hx1 with h | h <;> omega
      have hxi : x < (ns.length : Int) := by omega
      obtain ⟨_, _, _, nb, no, rfl, _, hcell⟩ := HNM.out.touch HL.fr
      have nc := hcell x.toNat hxn
      have HSX : Hid (ns[x.toNat].size ≤ 10) := HSB.out _ (List.getElem_mem hxn)
      clear hcell hx1
      generalize ns[x.toNat] = s at *
      obtain ⟨r0, r1, r2, r3, r4, r5, r6⟩ := c7_cells HL.r
      have f0 := HL.r.frozen 0
      have f1 := HL.r.frozen 1
      have f2 := HL.r.frozen 2
      have f3 := HL.r.frozen 3
      have f4 := HL.r.frozen 4
      have f5 := HL.r.frozen 5
      have f6 := HL.r.frozen 6
      try simp only [c7]
      go_wp2
      obtain ⟨q0, q1, q2, q3, q4, q5, q6⟩ := c7_cells (seven_cell (k' := 3) (t' := s) (A' := none) (la' := 0) (ca' := 0) (C' := none) (lb' := 0) (cb' := 0) (K' := none) (lk' := 0) (kc' := 0) (mn' := 0) (mx' := 0) HL.r)
      exact bodyPost_ret (v := .agg (c7 3 s none 0 0 none 0 0 none 0 0 0 0).toArray) (by simp [results, Try.results52, go_sem, q0, q1, q2, q3, q4, q5, q6, c7]) rfl (HL.done (kids := []) (lo := []) (hi := []) (by omega) (TopP.bare _ _) (lim_bare 3 s 0 0 (by have := HSX.out; omega)) (by simp) (by simp))
    · have hn4 := HNM.out.2.1
      have hn0 := HNM.out.1
      have HSB := Lib.hid HNM.out.2.2.1
      go_wp2_with fail
      refine (pick_any B g _ ns.length _ HL.rd (by omega) (by omega) (by omega)).mono ?_
      rintro e w3 ⟨x, rfl, hx0, hx1, hrd3, hg3⟩
      replace HL := HL.touch hg3 hrd3
      clear hrd3 hg3
      have hxn : x.toNat < ns.length := by rcases hx1 with h | h <;> omega
      have hxi : x < (ns.length : Int) := by omega
      obtain ⟨_, _, _, nb, no, rfl, _, hcell⟩ := HNM.out.touch HL.fr
      have nc := hcell x.toNat hxn
      have HSX : Hid (ns[x.toNat].size ≤ 10) := HSB.out _ (List.getElem_mem hxn)
      clear hcell hx1
      generalize ns[x.toNat] = s at *
      obtain ⟨r0, r1, r2, r3, r4, r5, r6⟩ := c7_cells HL.r
      have f0 := HL.r.frozen 0
      have f1 := HL.r.frozen 1
      have f2 := HL.r.frozen 2
      have f3 := HL.r.frozen 3
      have f4 := HL.r.frozen 4
      have f5 := HL.r.frozen 5
      have f6 := HL.r.frozen 6
      try simp only [c7]
      go_wp2
      obtain ⟨q0, q1, q2, q3, q4, q5, q6⟩ := c7_cells (seven_cell (k' := 3) (t' := s) (A' := none) (la' := 0) (ca' := 0) (C' := none) (lb' := 0) (cb' := 0) (K' := none) (lk' := 0) (kc' := 0) (mn' := 0) (mx' := 0) HL.r)
      exact bodyPost_ret (v := .agg (c7 3 s none 0 0 none 0 0 none 0 0 0 0).toArray) (by simp [results, Try.results52, go_sem, q0, q1, q2, q3, q4, q5, q6, c7]) rfl (HL.done (kids := []) (lo := []) (hi := []) (by omega) (TopP.bare _ _) (lim_bare 3 s 0 0 (by have := HSX.out; omega)) (by simp) (by simp))
    · obtain ⟨d', hd'⟩ : ∃ d', d' + 1 = d := ⟨d - 1, by omega⟩
      have HIH2 := Lib.hid (HIH.out d' hd' (by omega))
      subst hd'
      have HC := Lib.hid (kids_step HIH2.out (by omega) 4 (by simp) B g (N + 2) A c ns _ HL.rd (by have := HL.hB; have := HL.size; omega) (by have := cost_succ d'; omega) (HNM.out.touch HL.fr))
      have hcast : ((d' + 1 : Nat) : Int) = (d' : Int) + 1 := by omega
      rw [hcast] at *
      clear hcast
      go_wp2_with fail
      refine HC.out.mono ?_
      rintro e w3 ⟨kids, K, kc, rfl, hK, hlim, hkl, h5, hrd3, hg3⟩
      have HK := Lib.hid ((TopP.ofKids hK).low HL.size)
      have HLI := Lib.hid hlim
      have HKL := Lib.hid hkl
      have H5 := Lib.hid h5
      replace HL := HL.touch hg3 hrd3
      clear hrd3 hg3 hK hlim hkl h5 HC
      obtain ⟨r0, r1, r2, r3, r4, r5, r6⟩ := c7_cells HL.r
      have f0 := HL.r.frozen 0
      have f1 := HL.r.frozen 1
      have f2 := HL.r.frozen 2
      have f3 := HL.r.frozen 3
      have f4 := HL.r.frozen 4
      have f5 := HL.r.frozen 5
      have f6 := HL.r.frozen 6
      try simp only [c7]
      go_wp2
      obtain ⟨q0, q1, q2, q3, q4, q5, q6⟩ := c7_cells (seven_cell (k' := 4) (t' := ⟨#[]⟩) (A' := none) (la' := 0) (ca' := 0) (C' := none) (lb' := 0) (cb' := 0) (K' := K) (lk' := kids.length) (kc' := kc) (mn' := 0) (mx' := 0) HL.r)
      exact bodyPost_ret (v := .agg (c7 4 ⟨#[]⟩ none 0 0 none 0 0 K kids.length kc 0 0).toArray) (by simp [results, Try.results52, go_sem, q0, q1, q2, q3, q4, q5, q6, c7]) rfl (HL.done (lo := []) (hi := []) (by omega) HK.out (lim_kids 4 kids 0 0 (by have := HKL.out; have := HP3.out; omega) HLI.out) HKL.out H5.out)
    · obtain ⟨d', hd'⟩ : ∃ d', d' + 1 = d := ⟨d - 1, by omega⟩
      have HIH2 := Lib.hid (HIH.out d' hd' (by omega))
      subst hd'
      have HC := Lib.hid (kids_step HIH2.out (by omega) 4 (by simp) B g (N + 2) A c ns _ HL.rd (by have := HL.hB; have := HL.size; omega) (by have := cost_succ d'; omega) (HNM.out.touch HL.fr))
      have hcast : ((d' + 1 : Nat) : Int) = (d' : Int) + 1 := by omega
      rw [hcast] at *
      clear hcast
      go_wp2_with fail
      refine HC.out.mono ?_
      rintro e w3 ⟨kids, K, kc, rfl, hK, hlim, hkl, h5, hrd3, hg3⟩
      have HK := Lib.hid ((TopP.ofKids hK).low HL.size)
      have HLI := Lib.hid hlim
      have HKL := Lib.hid hkl
      have H5 := Lib.hid h5
      replace HL := HL.touch hg3 hrd3
      clear hrd3 hg3 hK hlim hkl h5 HC
      obtain ⟨r0, r1, r2, r3, r4, r5, r6⟩ := c7_cells HL.r
      have f0 := HL.r.frozen 0
      have f1 := HL.r.frozen 1
      have f2 := HL.r.frozen 2
      have f3 := HL.r.frozen 3
      have f4 := HL.r.frozen 4
      have f5 := HL.r.frozen 5
      have f6 := HL.r.frozen 6
      try simp only [c7]
      go_wp2
      obtain ⟨q0, q1, q2, q3, q4, q5, q6⟩ := c7_cells (seven_cell (k' := 4) (t' := ⟨#[]⟩) (A' := none) (la' := 0) (ca' := 0) (C' := none) (lb' := 0) (cb' := 0) (K' := K) (lk' := kids.length) (kc' := kc) (mn' := 0) (mx' := 0) HL.r)
      exact bodyPost_ret (v := .agg (c7 4 ⟨#[]⟩ none 0 0 none 0 0 K kids.length kc 0 0).toArray) (by simp [results, Try.results52, go_sem, q0, q1, q2, q3, q4, q5, q6, c7]) rfl (HL.done (lo := []) (hi := []) (by omega) HK.out (lim_kids 4 kids 0 0 (by have := HKL.out; have := HP3.out; omega) HLI.out) HKL.out H5.out)
    · obtain ⟨d', hd'⟩ : ∃ d', d' + 1 = d := ⟨d - 1, by omega⟩
      have HIH2 := Lib.hid (HIH.out d' hd' (by omega))
      subst hd'
      have HC := Lib.hid (kids_step HIH2.out (by omega) 5 (by simp) B g (N + 2) A c ns _ HL.rd (by have := HL.hB; have := HL.size; omega) (by have := cost_succ d'; omega) (HNM.out.touch HL.fr))
      have hcast : ((d' + 1 : Nat) : Int) = (d' : Int) + 1 := by omega
      rw [hcast] at *
      clear hcast
      go_wp2_with fail
      refine HC.out.mono ?_
      rintro e w3 ⟨kids, K, kc, rfl, hK, hlim, hkl, h5, hrd3, hg3⟩
      have HK := Lib.hid ((TopP.ofKids hK).low HL.size)
      have HLI := Lib.hid hlim
      have HKL := Lib.hid hkl
      have H5 := Lib.hid h5
      replace HL := HL.touch hg3 hrd3
      clear hrd3 hg3 hK hlim hkl h5 HC
      obtain ⟨r0, r1, r2, r3, r4, r5, r6⟩ := c7_cells HL.r
      have f0 := HL.r.frozen 0
      have f1 := HL.r.frozen 1
      have f2 := HL.r.frozen 2
      have f3 := HL.r.frozen 3
      have f4 := HL.r.frozen 4
      have f5 := HL.r.frozen 5
      have f6 := HL.r.frozen 6
      try simp only [c7]
      go_wp2
      obtain ⟨q0, q1, q2, q3, q4, q5, q6⟩ := c7_cells (seven_cell (k' := 5) (t' := ⟨#[]⟩) (A' := none) (la' := 0) (ca' := 0) (C' := none) (lb' := 0) (cb' := 0) (K' := K) (lk' := kids.length) (kc' := kc) (mn' := 0) (mx' := 0) HL.r)
      exact bodyPost_ret (v := .agg (c7 5 ⟨#[]⟩ none 0 0 none 0 0 K kids.length kc 0 0).toArray) (by simp [results, Try.results52, go_sem, q0, q1, q2, q3, q4, q5, q6, c7]) rfl (HL.done (lo := []) (hi := []) (by omega) HK.out (lim_kids 5 kids 0 0 (by have := HKL.out; have := HP3.out; omega) HLI.out) HKL.out (fun _ => H5.out trivial))
    · obtain ⟨d', hd'⟩ : ∃ d', d' + 1 = d := ⟨d - 1, by omega⟩
      have HIH2 := Lib.hid (HIH.out d' hd' (by omega))
      subst hd'
      have HCS : Hid (cost (d' + 1) = 4 * cost d' ∧ 25 ≤ cost d') := ⟨cost_succ d', cost_one d'⟩
      have HC := Lib.hid (HIH2.out B g (N + 2) A c ns _ HL.rd (by have := HL.hB; have := HL.size; omega) (by have := HCS.out; omega) (HNM.out.touch HL.fr))
      have hcast : IntKind.i64.wrap (((d' + 1 : Nat) : Int) - 1) = (d' : Int) := by rw [IntKind.wrap_i64]; omega
      go_wp2_with fail
      refine HC.out.mono ?_
      rintro e w2 ⟨pk, pt, plo, phi, pkids, pmn, pmx, PA, PC, PK, pa, pc, pkc, rfl, hT, hlim, hkl, h5, hrd2, hg2⟩
      clear hcast
      have HLI := Lib.hid hlim
      have HM := MS.start (HL.touch hg2 hrd2) hT (HL.size) hg2.size pk pt pmn pmx
      clear hrd2 hg2 hT hlim hkl h5 HC HL
      simp only [c7] at HM ⊢
      go_upto_region 20 with fail
      generalize (w2.alloc (.cells #[.int .i64 pk, .string pt, .slice PA plo.length pa, .slice PC phi.length pc, .slice PK pkids.length pkc, .int .i64 pmn, .int .i64 pmx] 88)).alloc (.cells #[.int .i64 6, .string ⟨#[]⟩, .slice none 0 0, .slice none 0 0, .slice (some ⟨w2.heap.size, 0, none⟩) 1 1, .int .i64 0, .int .i64 (-1)] 88) = W2 at *
      go_wp2_with fail
      refine (pick_any B g _ 4 _ HM.rs.rd (by have := HCS.out; omega) (by omega) (by omega)).mono ?_
      rintro e w3 ⟨z, rfl, hz0, hz1, hrd3, hg3⟩
      replace HM := HM.touch hg3 hrd3
      clear hrd3 hg3
      have hz : z = 0 ∨ z = 1 ∨ z = 2 ∨ z = 3 := by omega
      clear hz0 hz1
      rcases hz with rfl | rfl | rfl | rfl
      · have k5 := (c7_cells HM.p).2.2.2.2.2.1
        have g5 := HM.p.frozen 5
        have HM5 := HM.set5 1
        go_upto_region 30 with fail
        clear k5 g5 HM
        generalize w3.setCell ⟨w2.heap.size + 1, 5, none⟩ (.int .i64 1) = W3 at *
        have HM := HM5
        obtain ⟨p0, p1, p2, p3, p4, p5, p6⟩ := c7_cells HM.p
        have HL := HM.rs
        obtain ⟨r0, r1, r2, r3, r4, r5, r6⟩ := c7_cells HL.r
        have f0 := HL.r.frozen 0
        have f1 := HL.r.frozen 1
        have f2 := HL.r.frozen 2
        have f3 := HL.r.frozen 3
        have f4 := HL.r.frozen 4
        have f5 := HL.r.frozen 5
        have f6 := HL.r.frozen 6
        try simp only [c7]
        go_wp2
        obtain ⟨q0, q1, q2, q3, q4, q5, q6⟩ := c7_cells (seven_cell (k' := 6) (t' := ⟨#[]⟩) (A' := none) (la' := 0) (ca' := 0) (C' := none) (lb' := 0) (cb' := 0) (K' := (some ⟨w2.heap.size, 0, none⟩)) (lk' := 1) (kc' := 1) (mn' := 1) (mx' := (-1)) HL.r)
        exact bodyPost_ret (v := .agg (c7 6 ⟨#[]⟩ none 0 0 none 0 0 (some ⟨w2.heap.size, 0, none⟩) 1 1 1 (-1)).toArray) (by simp [results, Try.results52, go_sem, q0, q1, q2, q3, q4, q5, q6, c7]) rfl (HL.done (kids := [_]) (lo := []) (hi := []) (by have := HCS.out; omega) (TopP.ofKids HM.k) (lim_kids 6 [_] _ _ (by simp) (by intro p hp; rw [List.mem_singleton] at hp; subst hp; exact HLI.out)) (by simp; exact Nat.pow_pos (by decide)) (by simp))
      · have k6 := (c7_cells HM.p).2.2.2.2.2.2
        have g6 := HM.p.frozen 6
        have HM5 := HM.set6 1
        go_upto_region 30 with fail
        clear k6 g6 HM
        generalize w3.setCell ⟨w2.heap.size + 1, 6, none⟩ (.int .i64 1) = W3 at *
        have HM := HM5
        obtain ⟨p0, p1, p2, p3, p4, p5, p6⟩ := c7_cells HM.p
        have HL := HM.rs
        obtain ⟨r0, r1, r2, r3, r4, r5, r6⟩ := c7_cells HL.r
        have f0 := HL.r.frozen 0
        have f1 := HL.r.frozen 1
        have f2 := HL.r.frozen 2
        have f3 := HL.r.frozen 3
        have f4 := HL.r.frozen 4
        have f5 := HL.r.frozen 5
        have f6 := HL.r.frozen 6
        try simp only [c7]
        go_wp2
        obtain ⟨q0, q1, q2, q3, q4, q5, q6⟩ := c7_cells (seven_cell (k' := 6) (t' := ⟨#[]⟩) (A' := none) (la' := 0) (ca' := 0) (C' := none) (lb' := 0) (cb' := 0) (K' := (some ⟨w2.heap.size, 0, none⟩)) (lk' := 1) (kc' := 1) (mn' := 0) (mx' := 1) HL.r)
        exact bodyPost_ret (v := .agg (c7 6 ⟨#[]⟩ none 0 0 none 0 0 (some ⟨w2.heap.size, 0, none⟩) 1 1 0 1).toArray) (by simp [results, Try.results52, go_sem, q0, q1, q2, q3, q4, q5, q6, c7]) rfl (HL.done (kids := [_]) (lo := []) (hi := []) (by have := HCS.out; omega) (TopP.ofKids HM.k) (lim_kids 6 [_] _ _ (by simp) (by intro p hp; rw [List.mem_singleton] at hp; subst hp; exact HLI.out)) (by simp; exact Nat.pow_pos (by decide)) (by simp))
      · go_wp2_with fail
        refine (pick_any B g _ 3 _ HM.rs.rd (by have := HCS.out; omega) (by omega) (by omega)).mono ?_
        rintro e w4 ⟨x, rfl, hx0, hx1, hrd3, hg3⟩
        replace HM := HM.touch hg3 hrd3
        clear hrd3 hg3
        have hx2 : x ≤ 2 := by rcases hx1 with h | h <;> omega
        clear hx1
        have k5 := (c7_cells HM.p).2.2.2.2.2.1
        have g5 := HM.p.frozen 5
        have HM5 := HM.set5 x
        go_upto_region 27 with fail
        clear k5 g5 HM
        generalize w4.setCell ⟨w2.heap.size + 1, 5, none⟩ (.int .i64 x) = W4 at *
        have k5 := (c7_cells HM5.p).2.2.2.2.2.1
        have k6 := (c7_cells HM5.p).2.2.2.2.2.2
        have g6 := HM5.p.frozen 6
        go_region_law (go_simp; go_at_call 37; refine (pick_any B g _ 3 _ HM5.rs.drew.rd (by have := HCS.out; omega) (by omega) (by omega)).mono ?_; rintro e w5 ⟨y, rfl, hy0, hy1, hrd5, hg5⟩; have HM6 := HM5.drew.touch hg5 hrd5; have hy2 : y ≤ 2 := (by rcases hy1 with h | h <;> omega); have j5 := (c7_cells HM6.p).2.2.2.2.2.1; have j6 := (c7_cells HM6.p).2.2.2.2.2.2; have h6 := HM6.p.frozen 6; have hsum : IntKind.i64.wrap (x + y) = x + y := (by rw [IntKind.wrap_i64]; omega))
        all_goals
          have HM7 := HM6.set6 (x + y)
          clear HM5 HM6 hsum k5 k6 g6 j5 j6 h6
          generalize w5.setCell ⟨w2.heap.size + 1, 6, none⟩ (.int .i64 (x + y)) = W5 at *
          by_cases hxy : x + y = 0
          · have hxe : (x + y == 0) = true := by simp [hxy]
            clear hxy
            have k6 := (c7_cells HM7.p).2.2.2.2.2.2
            have g6 := HM7.p.frozen 6
            have HM8 := HM7.set6 1
            go_upto_region 30 with fail
            clear k6 g6 HM7
            generalize W5.setCell ⟨w2.heap.size + 1, 6, none⟩ (.int .i64 1) = W6 at *
            have HM := HM8
            obtain ⟨p0, p1, p2, p3, p4, p5, p6⟩ := c7_cells HM.p
            have HL := HM.rs
            obtain ⟨r0, r1, r2, r3, r4, r5, r6⟩ := c7_cells HL.r
            have f0 := HL.r.frozen 0
            have f1 := HL.r.frozen 1
            have f2 := HL.r.frozen 2
            have f3 := HL.r.frozen 3
            have f4 := HL.r.frozen 4
            have f5 := HL.r.frozen 5
            have f6 := HL.r.frozen 6
            try simp only [c7]
            go_wp2
            obtain ⟨q0, q1, q2, q3, q4, q5, q6⟩ := c7_cells (seven_cell (k' := 6) (t' := ⟨#[]⟩) (A' := none) (la' := 0) (ca' := 0) (C' := none) (lb' := 0) (cb' := 0) (K' := (some ⟨w2.heap.size, 0, none⟩)) (lk' := 1) (kc' := 1) (mn' := x) (mx' := 1) HL.r)
            exact bodyPost_ret (v := .agg (c7 6 ⟨#[]⟩ none 0 0 none 0 0 (some ⟨w2.heap.size, 0, none⟩) 1 1 x 1).toArray) (by simp [results, Try.results52, go_sem, q0, q1, q2, q3, q4, q5, q6, c7]) rfl (HL.done (kids := [_]) (lo := []) (hi := []) (by have := HCS.out; omega) (TopP.ofKids HM.k) (lim_kids 6 [_] _ _ (by simp) (by intro p hp; rw [List.mem_singleton] at hp; subst hp; exact HLI.out)) (by simp; exact Nat.pow_pos (by decide)) (by simp))
          · have hxe : (x + y == 0) = false := by simpa using hxy
            clear hxy
            have HM := HM7
            obtain ⟨p0, p1, p2, p3, p4, p5, p6⟩ := c7_cells HM.p
            have HL := HM.rs
            obtain ⟨r0, r1, r2, r3, r4, r5, r6⟩ := c7_cells HL.r
            have f0 := HL.r.frozen 0
            have f1 := HL.r.frozen 1
            have f2 := HL.r.frozen 2
            have f3 := HL.r.frozen 3
            have f4 := HL.r.frozen 4
            have f5 := HL.r.frozen 5
            have f6 := HL.r.frozen 6
            try simp only [c7]
            go_wp2
            obtain ⟨q0, q1, q2, q3, q4, q5, q6⟩ := c7_cells (seven_cell (k' := 6) (t' := ⟨#[]⟩) (A' := none) (la' := 0) (ca' := 0) (C' := none) (lb' := 0) (cb' := 0) (K' := (some ⟨w2.heap.size, 0, none⟩)) (lk' := 1) (kc' := 1) (mn' := x) (mx' := (x + y)) HL.r)
            exact bodyPost_ret (v := .agg (c7 6 ⟨#[]⟩ none 0 0 none 0 0 (some ⟨w2.heap.size, 0, none⟩) 1 1 x (x + y)).toArray) (by simp [results, Try.results52, go_sem, q0, q1, q2, q3, q4, q5, q6, c7]) rfl (HL.done (kids := [_]) (lo := []) (hi := []) (by have := HCS.out; omega) (TopP.ofKids HM.k) (lim_kids 6 [_] _ _ (by simp) (by intro p hp; rw [List.mem_singleton] at hp; subst hp; exact HLI.out)) (by simp; exact Nat.pow_pos (by decide)) (by simp))
      · obtain ⟨p0, p1, p2, p3, p4, p5, p6⟩ := c7_cells HM.p
        have HL := HM.rs
        obtain ⟨r0, r1, r2, r3, r4, r5, r6⟩ := c7_cells HL.r
        have f0 := HL.r.frozen 0
        have f1 := HL.r.frozen 1
        have f2 := HL.r.frozen 2
        have f3 := HL.r.frozen 3
        have f4 := HL.r.frozen 4
        have f5 := HL.r.frozen 5
        have f6 := HL.r.frozen 6
        try simp only [c7]
        go_wp2
        obtain ⟨q0, q1, q2, q3, q4, q5, q6⟩ := c7_cells (seven_cell (k' := 6) (t' := ⟨#[]⟩) (A' := none) (la' := 0) (ca' := 0) (C' := none) (lb' := 0) (cb' := 0) (K' := (some ⟨w2.heap.size, 0, none⟩)) (lk' := 1) (kc' := 1) (mn' := 0) (mx' := (-1)) HL.r)
        exact bodyPost_ret (v := .agg (c7 6 ⟨#[]⟩ none 0 0 none 0 0 (some ⟨w2.heap.size, 0, none⟩) 1 1 0 (-1)).toArray) (by simp [results, Try.results52, go_sem, q0, q1, q2, q3, q4, q5, q6, c7]) rfl (HL.done (kids := [_]) (lo := []) (hi := []) (by have := HCS.out; omega) (TopP.ofKids HM.k) (lim_kids 6 [_] _ _ (by simp) (by intro p hp; rw [List.mem_singleton] at hp; subst hp; exact HLI.out)) (by simp; exact Nat.pow_pos (by decide)) (by simp))

theorem drawPart_all : ∀ d, 1 ≤ d → d ≤ 5 → PartD d
  | 0, h, _ => by omega
  | d + 1, h1, h5 => part_step (d + 1) h1 h5 fun d' e h => by
    have e' : d' = d := by omega
    subst e'
    exact drawPart_all d' h (by omega)

end Go.Proofs.Ytkgiklmdpdakbaa

