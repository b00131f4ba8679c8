/- Productions by their heads: l3Sort. -/
import Derived.Test.YtkgiklmdpdakbaaJ8
import Derived.Test.YtkgiklmdpdakbaaY3
namespace Go.Proofs.Ytkgiklmdpdakbaa
open Go.RowKit
set_option linter.unusedVariables false

def atHead (h : Nat) (l : List Pd) : List Pd := l.filter fun p => decide (p.head = (h : Int))
theorem byHeads_succ (n : Nat) (l : List Pd) : byHeads (n + 1) l = byHeads n l ++ atHead n l := by
  unfold byHeads atHead
  rw [List.range_succ, List.flatMap_append]
  simp
theorem byHeads_len (n : Nat) (l : List Pd) : (byHeads n l).length ≤ n * l.length := by
  induction n with
  | zero => simp [byHeads]
  | succ n ih =>
    rw [byHeads_succ, List.length_append, Nat.succ_mul]
    have := List.length_filter_le (fun p : Pd => decide (p.head = (n : Int))) l
    unfold atHead
    omega
theorem byHeads_room {n m : Nat} {l : List Pd} (hn : n ≤ 1000) (hl : l.length ≤ 100000) (hm : m ≤ n) : (byHeads m l).length ≤ 100000000 :=
  Nat.le_trans (byHeads_len m l) (Nat.le_trans (Nat.mul_le_mul (Nat.le_trans hm hn) hl) (by decide))
theorem byHeads_cnt (n : Nat) : ∀ l : List Pd, (l.filter fun p => decide (0 ≤ p.head ∧ p.head < (n : Int))).length + (atHead n l).length = (l.filter fun p => decide (0 ≤ p.head ∧ p.head < ((n + 1 : Nat) : Int))).length
  | [] => by simp [atHead]
  | p :: r => by
    have ih := byHeads_cnt n r
    unfold atHead at ih ⊢
    simp only [List.filter_cons]
    by_cases h1 : 0 ≤ p.head ∧ p.head < (n : Int)
    · have h2 : ¬ p.head = (n : Int) := by omega
      have h3 : 0 ≤ p.head ∧ p.head < ((n + 1 : Nat) : Int) := by omega
      simp only [h1, h2, h3, decide_true, decide_false, if_true, and_self, List.length_cons, Bool.false_eq_true, if_false]
      omega
    · by_cases h2 : p.head = (n : Int)
      · have h3 : 0 ≤ p.head ∧ p.head < ((n + 1 : Nat) : Int) := by omega
        rw [if_neg (by simp only [decide_eq_true_eq]; exact h1), if_pos (by simp only [decide_eq_true_eq]; exact h2), if_pos (by simp only [decide_eq_true_eq]; exact h3)]
        simp only [List.length_cons]
        omega
      · have h3 : ¬ (0 ≤ p.head ∧ p.head < ((n + 1 : Nat) : Int)) := by omega
        rw [if_neg (by simp only [decide_eq_true_eq]; exact h1), if_neg (by simp only [decide_eq_true_eq]; exact h2), if_neg (by simp only [decide_eq_true_eq]; exact h3)]
        exact ih
theorem byHeads_is (n : Nat) (l : List Pd) : (byHeads n l).length = (l.filter fun p => decide (0 ≤ p.head ∧ p.head < (n : Int))).length := by
  induction n with
  | zero =>
    have : (l.filter fun p => decide (0 ≤ p.head ∧ p.head < ((0 : Nat) : Int))) = [] := by
      rw [List.filter_eq_nil_iff]
      intro p _ h
      simp only [decide_eq_true_eq] at h
      omega
    rw [this]
    simp [byHeads]
  | succ n ih => rw [byHeads_succ, List.length_append, ih, byHeads_cnt]
theorem byHeads_few (n : Nat) (l : List Pd) : (byHeads n l).length ≤ l.length := by
  rw [byHeads_is]
  exact List.length_filter_le _ _
theorem byHeads_mem {n : Nat} {l : List Pd} {p : Pd} (h : p ∈ byHeads n l) : p ∈ l := by
  unfold byHeads at h
  obtain ⟨_, _, h⟩ := List.mem_flatMap.1 h
  exact (List.mem_filter.1 h).1
theorem atHead_take {h k : Nat} {l : List Pd} (hk : k < l.length) : atHead h (l.take (k + 1)) = atHead h (l.take k) ++ (if l[k].head = (h : Int) then [l[k]] else []) := by
  unfold atHead
  rw [List.take_succ_eq_append_getElem hk, List.filter_append]
  congr 1
  by_cases e : l[k].head = (h : Int) <;> simp [e]

theorem src49 {w : World} {s n kc : Nat} {K : Option Addr} {css : List Value} (hr : w.ownsRow s 49 3 (.slice K n kc) n css) : (K = none → n = 0) ∧ ∀ ad, K = some ad → ∀ j u, css[j]? = some u → w.cell? (ad.add j) = some u := by
  refine ⟨fun e => ?_, fun ad e => ?_⟩
  · rcases hr.2 with ⟨e2, h0⟩ | ⟨g, cap, cur, e2, _⟩
    · exact h0
    · subst e
      injection e2 with e2
      cases e2
  · subst e
    exact Row.news (own_rowN hr)

set_option maxRecDepth 100000 in
set_option maxHeartbeats 2000000 in
theorem sort_any (H : Nat) (base : Nat) (A : Option Addr) (cap : Nat) (xs : List Pv) (w : World) (hg : OG w base A cap xs) (hH : H ≤ 1000) (hl : xs.length ≤ 100000) (hb5 : ∀ x ∈ xs, x.p.body.length ≤ 1000000) :
    Calls Try.prog 51 #[.int .i64 (H : Int), .slice A xs.length cap] w fun e w' => ∃ A' cap' zs, e = .returned (.slice A' zs.length cap') ∧ OG w' w.heap.size A' cap' zs ∧ zs.map Pv.p = byHeads H (xs.map Pv.p) ∧ Below w.heap.size w w' := by
  obtain ⟨i0, hi0, hz0, hz1, hz2⟩ := info_parts info46
  have HI := Lib.hid (And.intro hi0 (And.intro hz0 (And.intro hz1 hz2)))
  clear hi0 hz0 hz1 hz2
  obtain ⟨i1, hi0, hz0, hz1, hz2⟩ := info_parts info43
  have HI1 := Lib.hid (And.intro hi0 (And.intro hz0 (And.intro hz1 hz2)))
  clear hi0 hz0 hz1 hz2
  have HG := Lib.hid hg
  have HB5 := Lib.hid hb5
  clear hg hb5
  go_enter Try.func51, Try.ntmps51
  go_wp2
  go_loopw [5, 6, 7] (fun o hv iv wr => ∃ h : Nat, h ≤ H ∧ hv = .int .i64 h ∧ ∃ A' cap' zs, o = .slice A' zs.length cap' ∧ Hid (OG wr w.heap.size A' cap' zs) ∧ Hid (zs.map Pv.p = byHeads h (xs.map Pv.p)) ∧ Hid (Below w.heap.size w wr)) (fun _ hv _ _ => H - (intOf hv).toNat)
  case atStart => exact ⟨0, Nat.zero_le _, rfl, _, _, [], rfl, ⟨own_empty w 46 2 w.heap.size (Nat.le_refl _), fun i h => by simp at h, fun i j h => by simp at h⟩, by show _ = _; simp [byHeads], below_box _⟩
  case round =>
    obtain ⟨h, hhH, rfl, A1, c1, zs1, rfl, HO1, HZ1, HB1⟩ := hrel
    by_cases hlt : h < H
    · have hlt' : (h : Int) < (H : Int) := by omega
      go_wp2
      go_loopw [5, 7] (fun o iv wq => ∃ k : Nat, k ≤ xs.length ∧ iv = .int .i64 k ∧ ∃ A' cap' zs, o = .slice A' zs.length cap' ∧ Hid (OG wq w.heap.size A' cap' zs) ∧ Hid (zs.map Pv.p = byHeads h (xs.map Pv.p) ++ atHead h ((xs.map Pv.p).take k)) ∧ Hid (Below w.heap.size w wq)) (fun _ iv _ => xs.length - (intOf iv).toNat)
      case atStart => exact ⟨0, Nat.zero_le _, rfl, A1, c1, zs1, rfl, HO1, by show _ = _; rw [HZ1.out]; simp [atHead], HB1⟩
      case round =>
        clear HO1 HZ1 HB1
        obtain ⟨k, hk, rfl, A2, c2, zs, rfl, HO, HZ, HB⟩ := hrel
        rename World => wq
        by_cases hlt2 : k < xs.length
        · have hlt2' : (k : Int) < (xs.length : Int) := by omega
          have hzl : zs.length ≤ 100100000 := by
            have h1 : zs.length = (zs.map Pv.p).length := by simp
            rw [h1, HZ.out, List.length_append]
            have h2 := byHeads_room (l := xs.map Pv.p) hH (by simpa using hl) (Nat.le_of_lt hlt)
            have h3 := List.length_filter_le (fun p : Pd => decide (p.head = (h : Int))) ((xs.map Pv.p).take k)
            unfold atHead
            simp at h3 ⊢
            omega
          obtain ⟨g, cap', e2, _, _⟩ := own_some HG.out.o (by omega)
          injection e2 with e2 _ e3
          subst e2 e3
          have HG2 := HG.out.keep HB.out
          obtain ⟨q0, q1⟩ := pvCells_get xs k hlt2
          have p0 := own_cellN HG2.o _ _ q0
          have p1 := own_cellN HG2.o _ _ q1
          unfold Pv.sl at p1
          have HD := Lib.hid (HG2.d k hlt2)
          have hb := HB5.out _ (List.getElem_mem hlt2)
          have HAT := Lib.hid (atHead_take (h := h) (l := xs.map Pv.p) (k := k) (by simpa using hlt2))
          simp only [List.getElem_map] at HAT
          unfold Pv.sl at HD
          generalize xs[k] = x at *
          obtain ⟨⟨xh, xb⟩, xK, xc⟩ := x
          simp only at *
          clear HG2 q0 q1
          by_cases hc : xh = (h : Int)
          · subst hc
            have NXT : Hid (zs.map Pv.p ++ [⟨(h : Int), xb⟩] = byHeads h (xs.map Pv.p) ++ atHead h ((xs.map Pv.p).take (k + 1))) := by
              show _ = _
              rw [HAT.out, if_pos rfl, HZ.out, List.append_assoc]
            have HBA := Lib.hid (below_box (w := wq) (.cells #[] 49))
            have HD2 := Lib.hid (own_keep HD.out HBA.out)
            have HE := Lib.hid (own_empty wq 49 3 wq.heap.size (Nat.le_refl _))
            have hwq : w.heap.size ≤ wq.heap.size := HB.out.size
            have p1b := cell_keep HBA.out p1
            have plt := cell_lt p1
            simp only at plt
            clear HAT HZ HD
            go_wp2_with (at_builtin; refine wpList_append_any _ rfl _ _ 44 rfl wq.heap.size 49 i0 (.agg #[.int .i64 0, .int .i64 0, .int .i64 0]) 3 24 Try.underlying44 HI.out.1 HI.out.2.1 HI.out.2.2.1 HI.out.2.2.2 rfl (by decide) _ _ [] rfl HE.out xK xb.length xc (symCells xb) rfl (src49 HD2.out).1 (symCells_length _) (src49 HD2.out).2 (symCells_one _) ?d1 ?d2 ?d3 ?_)
            case d1 => unfold maxLen; omega
            case d2 => omega
            case d3 => simp
            intro v7 w7 hown7 hgrow7 _
            try simp only [Nat.zero_add, List.nil_append] at hown7
            obtain ⟨K7, k7, rfl⟩ := own_form hown7
            have HB7 := Lib.hid (HBA.out.grown hgrow7 HBA.out.size (fun k hk => (HE.out.lt k hk).1))
            have HO7 := Lib.hid (HO.out.keep HB7.out)
            have HLT := Lib.hid (fun i (hi : i < zs.length) b (e : zs[i].sl.ownBlock = some b) => ((HO.out.d i hi).lt b e).2)
            have HB8 := Lib.hid (below_box (w := w7) (.cells #[.int .i64 (h : Int), .slice K7 xb.length k7] 46))
            have HO8 := Lib.hid (HO7.out.keep HB8.out)
            have HW7 := Lib.hid (own_keep hown7 HB8.out)
            have HN := Lib.hid (Own.new w7 46 #[.int .i64 (h : Int), .slice K7 xb.length k7]).row.news
            have hw7 : wq.heap.size ≤ w7.heap.size := HB7.out.size
            have HZB : Hid (0 + xb.length = xb.length) := by show _ = _; omega
            clear hown7 hgrow7 HE HBA HD2 p0 p1 p1b
            go_wp2_with (at_builtin; refine wpList_append_own_at _ rfl _ _ 23 rfl w.heap.size 46 i1 (.agg #[.int .i64 0, .slice none 0 0]) 2 32 Try.underlying23 HI1.out.1 HI1.out.2.1 HI1.out.2.2.1 HI1.out.2.2.2 rfl (by decide) _ _ (pvCells zs) rfl HO8.out.o ⟨w7.heap.size, 0, none⟩ 1 1 [.int .i64 (h : Int), .slice K7 xb.length k7] rfl rfl HN.out ?c2 ?c3 ?c4 ?c5 ?_)
            case c2 => first | exact ⟨rfl, rfl⟩ | (intro u hu; simp at hu; rcases hu with rfl | rfl <;> rfl)
            case c3 => unfold maxLen; omega
            case c4 => omega
            case c5 => first | omega | (simp; omega)
            intro v9 w9 hown9 hgrow9 _ _
            obtain ⟨A9, cap9, rfl⟩ := own_form hown9
            have HO9 := Lib.hid (OG.push' (x := ⟨⟨(h : Int), xb⟩, K7, k7⟩) HO8.out (own_base HW7.out hwq) (fun i hi b e e' => by have := HLT.out i hi b e; have := (HW7.out.lt b e').1; omega) hgrow9 (by simpa [pvCells, Pv.sl] using hown9))
            have HB9 : Hid (Below w.heap.size w w9) := ((HB.out.trans (HB7.out.mono hwq)).trans (HB8.out.mono (by omega))).grown hgrow9 (by simp; omega) (fun k hk => (HO8.out.o.lt k hk).1)
            have HLEN : Hid ((zs ++ [(⟨⟨(h : Int), xb⟩, K7, k7⟩ : Pv)]).length = zs.length + 1) := by show _ = _; simp
            clear hown9 hgrow9 HO8 HO7 HW7 HN HLT
            go_wp2
            go_roundw
            case rel => exact ⟨k + 1, by omega, by go_num, A9, cap9, zs ++ [⟨⟨(h : Int), xb⟩, K7, k7⟩], by rw [HLEN.out], HO9, by show _ = _; rw [List.map_append]; exact NXT.out, HB9⟩
            case measure => simp [intOf]; omega
          · have NXT : Hid (zs.map Pv.p = byHeads h (xs.map Pv.p) ++ atHead h ((xs.map Pv.p).take (k + 1))) := by
              show _ = _
              rw [HAT.out, if_neg hc, HZ.out, List.append_nil]
            have hcb : (xh == (h : Int)) = false := by simp [hc]
            clear HAT HZ hc
            go_wp2
            go_roundw
            case rel => exact ⟨k + 1, by omega, by go_num, A2, c2, zs, rfl, HO, NXT, HB⟩
            case measure => simp [intOf]; omega
        · have hlt2' : ¬ (k : Int) < (xs.length : Int) := by omega
          have NXT : Hid (zs.map Pv.p = byHeads (h + 1) (xs.map Pv.p)) := by
            show _ = _
            rw [HZ.out, byHeads_succ, List.take_of_length_le (by simp; omega)]
          clear HZ
          go_wp2
          go_roundw
          case rel => exact ⟨h + 1, by omega, by go_num, A2, c2, zs, rfl, HO, NXT, HB⟩
          case measure => simp [intOf]; omega
    · have hlt' : ¬ (h : Int) < (H : Int) := by omega
      have e : h = H := by omega
      subst e
      go_wp2
      go_ret
      exact ⟨A1, c1, zs1, rfl, HO1.out, HZ1.out, HB1.out⟩

end Go.Proofs.Ytkgiklmdpdakbaa

