/- spec.CfgLeast, walked. -/
import Derived.Test.YtafldjbmheopjaaK3
namespace Go.Proofs.Ytafldjbmheopjaa
open Go.RowKit
set_option linter.unusedVariables false

theorem Fit.body {n : Nat} {ps : List Pd} (h : Fit n ps) {p : Pd} (hp : p ∈ ps) : BodyIn n p.body := ⟨(h p hp).2.2.1, (h p hp).2.2.2⟩

theorem l3Body_n (n : Nat) (ss : List Sy) (L : List Int) (a : Option Addr) (c : Nat) (A : Option Addr) (d : Nat) (w : World) (hr : Syms w a ss) (hL : Row w A (ints L)) (hn : L.length = n) (hb : BodyIn n ss) (hg : Good L) (hm : n ≤ 200) :
    Calls Try.prog 41 #[.slice a ss.length c, .slice A n d] w fun e w' => e = .returned (.int .i64 (sumOf L ss)) ∧ Below w.heap.size w w' := by
  subst hn; exact l3Body_any ss L a c A d w hr hL hb hg hm
theorem leastSum_n (n : Nat) (ss : List Sy) (L : List Int) (a : Option Addr) (c : Nat) (A : Option Addr) (d : Nat) (w : World) (hr : Syms w a ss) (hL : Row w A (ints L)) (hn : L.length = n) (hb : BodyIn n ss) (hg : Good L) (hm : n ≤ 200) :
    Calls Try.prog 73 #[.slice a ss.length c, .slice A n d] w fun e w' => e = .returned (.int .i64 (sumOf L ss)) ∧ Below w.heap.size w w' := by
  subst hn; exact leastSum_any ss L a c A d w hr hL hb hg hm

set_option maxRecDepth 100000 in
set_option maxHeartbeats 4000000 in
theorem specLeast_any (hd : Int) (ps : List Pd) (a : Option Addr) (c : Nat) (w : World) (hr : Pds w a ps) (hm : ps.length ≤ 1048576) (hs : Small ps) :
    Calls Try.prog 40 #[.agg #[.int .i64 hd, .slice a ps.length c]] w (LeastPost hd ps w) := by
  have HR := Lib.hid hr
  have HS := Lib.hid hs
  clear hr hs
  obtain ⟨i0, hi0, hz0, hz1, hz2⟩ := info_parts info3
  have HI := Lib.hid (And.intro hi0 (And.intro hz0 (And.intro hz1 hz2)))
  clear hi0 hz0 hz1 hz2
  go_enter Try.func40, Try.ntmps40
  go_wp2_with fail
  refine (specOk_any hd ps a c _ (HR.out.keep ((below_box _).alloc (by simp) _)) hm HS.out).mono ?_
  rintro e w1 ⟨rfl, hb⟩
  have hbx : Below w.heap.size w (w.alloc (.cells #[.int .i64 hd, .slice a ps.length c] 33)) := below_box _
  have hW : (w.alloc (.cells #[.int .i64 hd, .slice a ps.length c] 33)).heap.size = w.heap.size + 1 := by simp
  have hn1 : w1.ownsRow (w.heap.size + 1) 3 1 (.slice (some ⟨w.heap.size + 1, 0, none⟩) 0 0) 0 [] := by
    have := own_keep (own_new (w.alloc (.cells #[.int .i64 hd, .slice a ps.length c] 33)) 3 (w.heap.size + 1) (by simp) [] (by simp [maxLen])) hb
    simpa using this
  have hb1 : Below (w.heap.size + 1) (w.alloc (.cells #[.int .i64 hd, .slice a ps.length c] 33)) w1 := by
    have h1 := (below_box (w := w.alloc (.cells #[.int .i64 hd, .slice a ps.length c] 33)) (.cells (#[] : Array Value) 3))
    rw [hW] at h1
    exact h1.trans (hb.mono (by simp))
  have k0 : (w.alloc (.cells #[.int .i64 hd, .slice a ps.length c] 33)).cell? ⟨w.heap.size, 0, none⟩ = some (.int .i64 hd) := by simp
  have k1 : (w.alloc (.cells #[.int .i64 hd, .slice a ps.length c] 33)).cell? ⟨w.heap.size, 1, none⟩ = some (.slice a ps.length c) := by simp
  have HR1 := Lib.hid (HR.out.keep hbx)
  rw [← hW] at hb1
  generalize w.alloc (.cells #[.int .i64 hd, .slice a ps.length c] 33) = W at *
  have HK0 := Lib.hid k0
  have HK1 := Lib.hid k1
  have HBX := Lib.hid hbx
  have HW := Lib.hid hW
  clear k0 k1 hbx hb hW
  cases hok : cfgOkB hd ps
  · have IL : Hid (IsLeast hd ps []) := by show IsLeast hd ps []; unfold IsLeast; rw [if_neg (by simp [hok])]
    go_wp2
    go_ret
    exact ⟨[], _, _, rfl, own_base hn1 (by omega), IL.out, HBX.out.trans (hb1.mono HBX.out.size)⟩
  · have hd0 : 0 ≤ hd := by unfold cfgOkB at hok; simp at hok; omega
    obtain ⟨n, rfl⟩ : ∃ n : Nat, hd = n := ⟨hd.toNat, by omega⟩
    obtain ⟨hfit, hp4, hn0, hn2⟩ := ok_fit hok
    have HF := Lib.hid hfit
    have HOK := Lib.hid hok
    clear hfit hok hd0
    go_wp2
    go_loopw [3, 4] (fun o i wr => ∃ k : Nat, k ≤ n ∧ i = .int .i64 k ∧ ∃ A cap, o = .slice A k cap ∧ wr.ownsRow W.heap.size 3 1 (.slice A k cap) k (ints (List.replicate k (-1))) ∧ Below W.heap.size W wr) (fun _ i _ => n - (intOf i).toNat)
    case atStart => exact ⟨0, Nat.zero_le _, rfl, _, _, rfl, by rw [HW.out]; simpa [ints] using hn1, hb1⟩
    case round =>
      clear hn1 hb1
      obtain ⟨k, hk, rfl, A, cap, rfl, hown, hb⟩ := hrel
      have k0 := cell_keep hb HK0.out
      have k1 := cell_keep hb HK1.out
      have hsz := hb.size
      by_cases hlt : k < n
      · have hlt' : (k : Int) < (n : Int) := by omega
        go_wp2_with (at_builtin; refine wpList_append_own _ rfl _ _ 81 rfl W.heap.size 3 i0 (.int .i64 0) 1 8 Try.underlying81 HI.out.1 HI.out.2.1 HI.out.2.2.1 HI.out.2.2.2 rfl (by decide) _ _ _ rfl (hown.alloc _) ⟨wr.heap.size, 0, none⟩ 1 1 [.int .i64 (-1)] rfl rfl (cell_one_new _ _ _) ?c2 ?c3 ?c4 ?c5 ?_)
        case c2 => intro u hu; simp at hu; subst hu; rfl
        case c3 => unfold maxLen; omega
        case c4 => omega
        case c5 => simp; omega
        · intro v' w3 hown' hgrow _
          have hb' := (hb.alloc hsz _).grown hgrow (by simp; omega) (fun k hk => (hown.lt k hk).1)
          obtain ⟨A', cap', hv⟩ := own_form hown'
          subst hv
          have e : ints (List.replicate k (-1)) ++ [.int .i64 (-1)] = ints (List.replicate (k + 1) (-1)) := by rw [ints_one, List.replicate_succ']
          rw [e] at hown'
          clear hown hgrow hb k0 k1 e
          go_wp2
          go_roundw
          case rel => exact ⟨k + 1, by omega, by go_num, A', cap', rfl, hown', hb'⟩
          case measure => simp [intOf]; omega
      · obtain rfl : k = n := by omega
        obtain ⟨g, cap', hv, hg1, hg2⟩ := own_some hown (by omega)
        injection hv with e1 _ e2
        subst e1 e2
        have hls : LS W g cap (List.replicate k (-1)) wr := ⟨by simpa using hown, hb⟩
        have hnl : ¬ (k : Int) < (k : Int) := by omega
        clear hown hb hsz
        go_wp2
        clear k0 k1
        go_loopw [5] (fun ag wr => ∃ (ab : Bool) (L : List Int), ag = .bool ab ∧ L.length = k ∧ Hid (Reach k ps L) ∧ LS W g cap L wr ∧ Hid (ab = false → ∀ p ∈ ps, StableAt L p)) (fun ag wr => tot (readL g k wr) + bN ag)
        case atStart => exact ⟨true, _, rfl, by simp, Reach.start, hls, fun h => by cases h⟩
        case round =>
          clear hls
          obtain ⟨ab, L, rfl, hL0, HRe, hls, HST⟩ := hrel
          have hL := Lib.hid hL0
          clear hL0
          cases ab
          · have IL : Hid (IsLeast (k : Int) ps L) := by
              show IsLeast _ _ _
              unfold IsLeast
              rw [if_pos HOK.out]
              exact ⟨by simpa using HRe.out, HST.out rfl⟩
            go_wp2
            go_ret
            exact ⟨L, some ⟨g, 0, none⟩, cap, by rw [hL.out]; rfl, own_base hls.o HBX.out.size, IL.out, HBX.out.trans (hls.b.mono HBX.out.size)⟩
          · have HRO : Hid (readL g k wr = L) := by show _ = _; rw [← hL.out]; exact hls.read
            clear HST
            go_wp2
            go_loopw [5, 6] (fun ag i wr => ∃ m : Nat, m ≤ ps.length ∧ i = .int .i64 m ∧ ∃ (ab : Bool) (L' : List Int), ag = .bool ab ∧ L'.length = k ∧ Hid (Reach k ps L') ∧ LS W g cap L' wr ∧ Hid (ab = false → L' = L ∧ ∀ j (h : j < ps.length), j < m → StableAt L ps[j]) ∧ Hid (ab = true → tot L' < tot L)) (fun _ i _ => ps.length - (intOf i).toNat)
            case atStart => exact ⟨0, Nat.zero_le _, rfl, false, L, rfl, hL.out, HRe, hls, fun _ => ⟨rfl, fun j _ hj => by omega⟩, fun h => by cases h⟩
            case round =>
              clear hls HRe
              obtain ⟨m, hm2, rfl, ab, L', rfl, hL0, HRe, hls, HST, HTT⟩ := hrel
              have hL' := Lib.hid hL0
              clear hL0
              have k1 := cell_keep hls.b HK1.out
              have hg := hls.ge
              by_cases hml : m < ps.length
              · obtain ⟨b, off, rfl, K, kc, hn⟩ := (HR1.out.keep hls.b).at_ hml
                have hml' : (m : Int) < (ps.length : Int) := by omega
                have HP := Lib.hid (List.getElem_mem hml)
                have HPJ : Hid (∀ (Q : Prop), (∀ j (h : j < ps.length), j < m → StableAt L ps[j]) → StableAt L ps[m] → ∀ j (h : j < ps.length), j < m + 1 → StableAt L ps[j]) := fun Q h1 h2 j hj hjm => by
                  rcases Nat.lt_succ_iff_lt_or_eq.1 hjm with h3 | h3
                  · exact h1 j hj h3
                  · subst h3; exact h2
                have c0 := hn.c0
                have c1 := hn.c1
                generalize ps[m] = p at *
                obtain ⟨p0, p1, p2, _⟩ := HF.out p HP.out
                obtain ⟨x, hx⟩ : ∃ x : Nat, p.head = x := ⟨p.head.toNat, by omega⟩
                have HX := Lib.hid hx
                rw [hx] at c0
                go_wp2_with fail
                refine (l3Body_n k p.body L' K kc (some ⟨g, 0, none⟩) cap wr hn.k hls.row hL'.out (HF.out.body HP.out) (HRe.out.good HF.out) (by omega)).mono ?_
                rintro e w2 ⟨rfl, hb2⟩
                have hls2 := hls.keep hb2
                have hzb := sumOf_bound L' p.body p2
                obtain ⟨z, hz⟩ : ∃ z : Int, sumOf L' p.body = z := ⟨_, rfl⟩
                rw [hz] at hzb ⊢
                have HZ := Lib.hid hz
                have c0' := cell_keep hb2 c0
                have c1' := cell_keep hb2 c1
                have k1' := cell_keep hb2 k1
                have ca := hls2.at_ (k := p.head) p0 (by rw [hL'.out]; exact p1)
                rw [hx] at ca
                simp only [Int.toNat_natCast] at ca
                obtain ⟨v, hv⟩ : ∃ v : Int, at_ L' (x : Int) = v := ⟨_, rfl⟩
                rw [hv] at ca
                have HV := Lib.hid hv
                have hxk : x < k := by omega
                have hxk' : (x : Int) < (k : Int) := by omega
                have hgw := hls2.ge.2
                clear hls hn c0 c1 k1 hb2 hz hv hx p0 p1 hg
                by_cases q : z < 0
                · have LE : ¬ Less L' p := fun h => by have := h.1; rw [HZ.out] at this; omega
                  have q' : ¬ (0 : Int) ≤ z := by omega
                  have HST3 : Hid (ab = false → L' = L ∧ ∀ j (h : j < ps.length), j < m + 1 → StableAt L ps[j]) := fun h => by
                    obtain ⟨h1, h2⟩ := HST.out h
                    refine ⟨h1, HPJ.out True h2 ?_⟩
                    subst h1
                    exact LE
                  clear HST HPJ LE
                  go_wp2
                  go_roundw
                  case rel => exact ⟨m + 1, by omega, by go_num, ab, _, rfl, hL'.out, HRe, hls2, HST3, HTT⟩
                  case measure => simp [intOf]; omega
                · have q' : (0 : Int) ≤ z := by omega
                  by_cases q1 : v < 0
                  · have LE : Less L' p := ⟨by rw [HZ.out]; omega, .inl (by rw [HX.out, HV.out]; omega)⟩
                    have HT3 := hls2.put x (by rw [hL'.out]; omega) z
                    have fz : w2.frozen? ⟨g, x, none⟩ = false := own_frozen hls2.o x
                    have HRe3 : Hid (Reach k ps (L'.set x z)) := by
                      have := Reach.step L' p HRe.out HP.out LE
                      rw [HX.out, HZ.out] at this
                      simp only [Int.toNat_natCast] at this
                      exact this
                    have HTT3 : Hid (tot (L'.set x z) < tot L) := by
                      have h1 := LE.tot hL'.out (by have := HX.out; omega) (by have := HX.out; omega) p2
                      rw [HX.out, HZ.out] at h1
                      simp only [Int.toNat_natCast] at h1
                      show _ < _
                      cases ab
                      · have := (HST.out rfl).1; subst this; exact h1
                      · have := HTT.out rfl; omega
                    have hl3 : Hid ((L'.set x z).length = k) := by show _ = _; rw [List.length_set]; exact hL'.out
                    clear hls2 HST HTT HRe HPJ LE
                    go_wp2
                    go_roundw
                    case rel => exact ⟨m + 1, by omega, by go_num, true, _, rfl, hl3.out, HRe3, HT3, (fun h => by cases h), fun _ => HTT3.out⟩
                    case measure => simp [intOf]; omega
                  · by_cases q2 : z < v
                    · have LE : Less L' p := ⟨by rw [HZ.out]; omega, .inr (by rw [HX.out, HV.out, HZ.out]; omega)⟩
                      have HT3 := hls2.put x (by rw [hL'.out]; omega) z
                      have fz : w2.frozen? ⟨g, x, none⟩ = false := own_frozen hls2.o x
                      have HRe3 : Hid (Reach k ps (L'.set x z)) := by
                        have := Reach.step L' p HRe.out HP.out LE
                        rw [HX.out, HZ.out] at this
                        simp only [Int.toNat_natCast] at this
                        exact this
                      have HTT3 : Hid (tot (L'.set x z) < tot L) := by
                        have h1 := LE.tot hL'.out (by have := HX.out; omega) (by have := HX.out; omega) p2
                        rw [HX.out, HZ.out] at h1
                        simp only [Int.toNat_natCast] at h1
                        show _ < _
                        cases ab
                        · have := (HST.out rfl).1; subst this; exact h1
                        · have := HTT.out rfl; omega
                      have hl3 : Hid ((L'.set x z).length = k) := by show _ = _; rw [List.length_set]; exact hL'.out
                      clear hls2 HST HTT HRe HPJ LE
                      go_wp2
                      go_roundw
                      case rel => exact ⟨m + 1, by omega, by go_num, true, _, rfl, hl3.out, HRe3, HT3, (fun h => by cases h), fun _ => HTT3.out⟩
                      case measure => simp [intOf]; omega
                    · have LE : ¬ Less L' p := fun h => by
                        have := h.2
                        rw [HX.out, HV.out, HZ.out] at this
                        omega
                      have HST3 : Hid (ab = false → L' = L ∧ ∀ j (h : j < ps.length), j < m + 1 → StableAt L ps[j]) := fun h => by
                        obtain ⟨h1, h2⟩ := HST.out h
                        refine ⟨h1, HPJ.out True h2 ?_⟩
                        subst h1
                        exact LE
                      clear HST HPJ LE
                      go_wp2
                      go_roundw
                      case rel => exact ⟨m + 1, by omega, by go_num, ab, _, rfl, hL'.out, HRe, hls2, HST3, HTT⟩
                      case measure => simp [intOf]; omega
              · have hml' : ¬ (m : Int) < (ps.length : Int) := by omega
                have HR2 : Hid (readL g k wr = L') := by show _ = _; rw [← hL'.out]; exact hls.read
                have HS2 : Hid (ab = false → ∀ p ∈ ps, StableAt L' p) := fun h p hp => by
                  obtain ⟨h1, h2⟩ := HST.out h
                  subst h1
                  obtain ⟨j, hj, rfl⟩ := List.getElem_of_mem hp
                  exact h2 j hj (by omega)
                have HM : Hid (tot L' + bN (.bool ab) < tot L + 1) := by
                  show _ < _
                  cases ab
                  · have := (HST.out rfl).1; subst this; simp [bN]
                  · have := HTT.out rfl; simp [bN]; omega
                clear HST HTT
                go_wp2
                go_roundw
                case rel => exact ⟨ab, L', rfl, hL'.out, HRe, hls, HS2⟩
                case measure => rw [HR2.out, HRO.out]; exact HM.out

end Go.Proofs.Ytafldjbmheopjaa
