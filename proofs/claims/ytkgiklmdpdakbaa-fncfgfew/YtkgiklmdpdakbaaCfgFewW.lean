/- The walk of the law FnCfgFew. -/
import Derived.Test.YtkgiklmdpdakbaaL1
import Derived.Test.YtkgiklmdpdakbaaJ10
import Derived.Test.YtkgiklmdpdakbaaM10a
namespace Go.Proofs.Ytkgiklmdpdakbaa
open Go.RowKit
set_option linter.unusedVariables false

theorem eqCB_same (hd : Int) (ps : List Pd) : eqCB hd ps hd ps = true := decide_eq_true ⟨rfl, rfl⟩
def TrueB (w : World) (e : Ending) (w' : World) : Prop := e = .returned (.bool true) ∧ Below w.heap.size w w'

theorem pds_one {w : World} {b off i : Nat} {ps : List Pd} (h : Pds w (some ⟨b, off, none⟩) ps) (hi : i < ps.length) : Pds w (some ⟨b, off + i * 2, none⟩) [ps[i]] := by
  rcases h with h | ⟨b2, o2, e, h⟩
  · subst h; simp at hi
  · injection e with e
    injection e with e1 e2
    subst e1 e2
    refine .inr ⟨b, off + i * 2, rfl, fun j hj => ?_⟩
    have hj0 : j = 0 := by simpa using hj
    subst hj0
    obtain ⟨K, kc, hp⟩ := h i hi
    exact ⟨K, kc, by simpa using hp⟩
theorem OG.le {w : World} {base cap : Nat} {A : Option Addr} {xs : List Pv} (h : OG w base A cap xs) : xs.length ≤ cap := by
  rcases h.o.2 with ⟨e, h0⟩ | ⟨g, cp, cur, e, _, _, h3⟩
  · injection e with _ _ e3
    omega
  · injection e with _ _ e3
    omega

set_option maxRecDepth 100000 in
set_option maxHeartbeats 4000000 in
theorem cfgFew_walk (C : Option Addr) (ccap : Nat) (zs : List Int) (w : World) (hrow : Row w C (byts zs)) (hz : zs.length ≤ maxLen) (hcap : zs.length ≤ ccap) (hzs : ∀ z ∈ zs, 0 ≤ z ∧ z ≤ 255) :
    Calls Try.prog 3 #[.slice C zs.length ccap] w (TrueB w) := by
  have HR := Lib.hid hrow
  have HZ := Lib.hid hzs
  clear hrow hzs
  by_cases hl : (zs.length : Int) > 1048576
  · go_enter Try.func3, Try.ntmps3
    go_wp2
    go_ret
    exact ⟨rfl, Below.refl _ _⟩
  · have hl' : ¬ (zs.length : Int) > 1048576 := hl
    go_enter Try.func3, Try.ntmps3
    go_wp2_with fail
    refine (drawCfgTrim_any C ccap zs _ HR.out (by omega) hcap HZ.out).mono ?_
    rintro e w1 ⟨hd, A, cap, xs, rfl, hdc, hb1⟩
    have HN : Hid (xs.length ≤ 1000) := hdc.n
    have hxc := hdc.c
    have HSM : Hid (Small (xs.map Pv.p)) := fun p hp => by
      obtain ⟨x, hx, rfl⟩ := List.mem_map.1 hp
      have := hdc.l x hx
      omega
    have HD2 := Lib.hid (hdc.keep (below_box (.cells #[.int .i64 hd, .slice A xs.length cap] 25)))
    have HOC := Lib.hid (Own.new w1 25 #[.int .i64 hd, .slice A xs.length cap])
    have HB2 := Lib.hid (hb1.alloc hb1.size (.cells #[.int .i64 hd, .slice A xs.length cap] 25))
    have HSP := Lib.hid (specTrim_gen hd (xs.map Pv.p) xs A cap (w1.alloc (.cells #[.int .i64 hd, .slice A xs.length cap] 25)) rfl HD2.out.b HD2.out.r (by rw [List.length_map]; have := HN.out; omega) HSM.out)
    rw [List.length_map] at HSP
    clear hdc hb1 HR HZ
    go_wp2_with fail
    generalize hcb : w1.heap.size = cb at *
    clear hcb
    generalize w1.alloc (.cells #[.int .i64 hd, .slice A xs.length cap] 25) = W1 at *
    refine HSP.out.mono ?_
    rintro e w3 ⟨hd3, A3, cap3, z3, rfl, hIT3, hog3, hb3⟩
    have HIT3 := Lib.hid hIT3
    have hl3 : z3.length ≤ 400 := by have := hIT3.len; rwa [List.length_map] at this
    have HOC3 := Lib.hid ((HOC.out.keep hb3).alloc (.cells #[.int .i64 hd3, .slice A3 z3.length cap3] 25))
    have HD3 := Lib.hid ((HD2.out.keep hb3).keep (below_box (.cells #[.int .i64 hd3, .slice A3 z3.length cap3] 25)))
    have HG3 := Lib.hid (hog3.keep (below_box (.cells #[.int .i64 hd3, .slice A3 z3.length cap3] 25)))
    have HOW := Lib.hid (Own.new w3 25 #[.int .i64 hd3, .slice A3 z3.length cap3])
    have hbW : Below w.heap.size w (w3.alloc (.cells #[.int .i64 hd3, .slice A3 z3.length cap3] 25)) := (HB2.out.trans (hb3.mono HB2.out.size)).alloc (Nat.le_trans HB2.out.size hb3.size) _
    have HBW := Lib.hid hbW
    have HIM := Lib.hid (implTrim_any hd (xs.map Pv.p) A cap (w3.alloc (.cells #[.int .i64 hd3, .slice A3 z3.length cap3] 25)) (row_pds HD3.out.r HD3.out.b) (by rw [List.length_map]; have := HN.out; omega) HSM.out)
    rw [List.length_map] at HIM
    have c0 := (HOC3.out.cell 0).trans rfl
    have c1 := (HOC3.out.cell 1).trans rfl
    simp only [List.getElem?_cons_zero, List.getElem?_cons_succ] at c0 c1
    clear hIT3 hog3 hb3 HSP HD2 HOC HB2 hbW
    go_wp2_with fail
    generalize hb4 : w3.heap.size = b4 at *
    clear hb4
    generalize w3.alloc (.cells #[.int .i64 hd3, .slice A3 z3.length cap3] 25) = W3 at *
    refine HIM.out.mono ?_
    rintro e w5 ⟨hd5, A5, cap5, z5, rfl, hIT5, hog5, hb5⟩
    obtain ⟨e1, e2⟩ := hIT5.one HIT3.out
    subst e1
    obtain ⟨qs, hqs⟩ : ∃ qs, z3.map Pv.p = qs := ⟨_, rfl⟩
    have HITq : Hid (IsTrim hd (xs.map Pv.p) hd5 qs) := by show IsTrim _ _ _ _; rw [← hqs]; exact HIT3.out
    obtain ⟨m, hm⟩ : ∃ m, qs.length = m := ⟨_, rfl⟩
    have hz3 : z3.length = m := by rw [← hm, ← hqs, List.length_map]
    have hz5 : z5.length = m := by rw [← hm, ← hqs, ← e2, List.length_map]
    have hm4 : m ≤ 400 := by omega
    have HMq := Lib.hid hm
    have HSQ : Hid (Small qs) := HITq.out.small HSM.out
    have HLF : Hid (∀ X, Pds X A5 qs → Pds X A3 qs → Calls Try.prog 8 #[.agg #[.int .i64 hd5, .slice A5 m cap5], .agg #[.int .i64 hd5, .slice A3 m cap3]] X fun e w' => e = .returned (.bool true) ∧ Below X.heap.size X w') := fun X h h' => by
      have := lfCfg_any hd5 hd5 qs qs A5 A3 cap5 cap3 X h h' (by omega) (by omega) HSQ.out HSQ.out
      rw [HMq.out] at this
      exact this.mono fun e w' ⟨h1, h2⟩ => ⟨by rw [h1, eqCB_same], h2⟩
    rw [hz5]
    have hp5 : Pds w5 A5 qs := by rw [← hqs, ← e2]; exact hog5.pds
    have hp3 : Pds W3 A3 qs := by rw [← hqs]; exact HG3.out.pds
    have hcap5 : m ≤ cap5 := by have := hog5.le; omega
    have HO5 := Lib.hid ((HOC3.out.keep hb5).alloc (.cells #[.int .i64 hd5, .slice A5 m cap5] 25))
    have HOW5 := Lib.hid ((HOW.out.keep hb5).alloc (.cells #[.int .i64 hd5, .slice A5 m cap5] 25))
    have HOT := Lib.hid (Own.new w5 25 #[.int .i64 hd5, .slice A5 m cap5])
    have HP5 := Lib.hid (hp5.alloc (.cells #[.int .i64 hd5, .slice A5 m cap5] 25))
    have HP3 := Lib.hid ((hp3.keep hb5).alloc (.cells #[.int .i64 hd5, .slice A5 m cap5] 25))
    have hpx := row_pds ((HD3.out.keep hb5).keep (below_box (.cells #[.int .i64 hd5, .slice A5 m cap5] 25))).r ((HD3.out.keep hb5).keep (below_box (.cells #[.int .i64 hd5, .slice A5 m cap5] 25))).b
    have HPX := Lib.hid hpx
    have HBW5 := Lib.hid ((HBW.out.trans (hb5.mono HBW.out.size)).alloc (Nat.le_trans HBW.out.size hb5.size) (.cells #[.int .i64 hd5, .slice A5 m cap5] 25))
    have c0 := (HO5.out.cell 0).trans rfl
    have c1 := (HO5.out.cell 1).trans rfl
    have v0 := (HOW5.out.cell 0).trans rfl
    have v1 := (HOW5.out.cell 1).trans rfl
    simp only [List.getElem?_cons_zero, List.getElem?_cons_succ, hz3] at c0 c1 v0 v1
    have HZ3 := Lib.hid hz3
    have HZ5 := Lib.hid hz5
    obtain ⟨ps, hps⟩ : ∃ ps, xs.map Pv.p = ps := ⟨_, rfl⟩
    obtain ⟨n, hn⟩ : ∃ n, xs.length = n := ⟨_, rfl⟩
    have hpn : ps.length = n := by rw [← hps, List.length_map]; exact hn
    have HPN := Lib.hid hpn
    rw [hps] at HPX HITq HSM
    rw [hn] at c1 hxc HN ⊢
    have HLF1 := Lib.hid (HLF.out _ HP5.out HP3.out)
    clear hog5 hIT5 hb5 e2 hqs hm hz3 hz5 hp5 hp3 HOC3 HG3 HD3 HOW HBW HIM HIT3 HO5 HOW5 hpx hps hn hpn
    go_wp2_with fail
    generalize hb5' : w5.heap.size = b5 at *
    clear hb5'
    have t0 := (HOT.out.cell 0).trans rfl
    have t1 := (HOT.out.cell 1).trans rfl
    simp only [List.getElem?_cons_zero, List.getElem?_cons_succ] at t0 t1
    clear HOT
    generalize w5.alloc (.cells #[.int .i64 hd5, .slice A5 m cap5] 25) = W5 at *
    refine HLF1.out.mono ?_
    rintro e w6 ⟨rfl, hb6⟩
    replace c0 := cell_keep hb6 c0
    replace c1 := cell_keep hb6 c1
    replace v0 := cell_keep hb6 v0
    replace v1 := cell_keep hb6 v1
    replace t0 := cell_keep hb6 t0
    replace t1 := cell_keep hb6 t1
    have HB6 := Lib.hid (HBW5.out.trans (hb6.mono HBW5.out.size))
    have HPX6 := Lib.hid (HPX.out.keep hb6)
    have HP56 := Lib.hid (HP5.out.keep hb6)
    have HP36 := Lib.hid (HP3.out.keep hb6)
    have HOK := Lib.hid (specOk_any hd ps A cap w6 HPX6.out (by have := HPN.out; have := HN.out; omega) HSM.out)
    rw [HPN.out] at HOK
    clear hb6 HPX HP5 HP3 HBW5 HLF1
    go_wp2_with fail
    refine HOK.out.mono ?_
    rintro e w7 ⟨rfl, hb7⟩
    replace c0 := cell_keep hb7 c0
    replace c1 := cell_keep hb7 c1
    replace v0 := cell_keep hb7 v0
    replace v1 := cell_keep hb7 v1
    replace t0 := cell_keep hb7 t0
    replace t1 := cell_keep hb7 t1
    have HB7 := Lib.hid (HB6.out.trans (hb7.mono HB6.out.size))
    have HPX7 := Lib.hid (HPX6.out.keep hb7)
    have HP57 := Lib.hid (HP56.out.keep hb7)
    have HP37 := Lib.hid (HP36.out.keep hb7)
    clear hb7 HPX6 HP56 HP36 HB6 HOK
    cases hok : cfgOkB hd ps
    · have HLF2 := Lib.hid (HLF.out w7 HP57.out HP37.out)
      clear hok
      go_wp2_with fail
      refine HLF2.out.mono ?_
      rintro e w8 ⟨rfl, hb8⟩
      have FB := Lib.hid (HB7.out.trans (hb8.mono HB7.out.size))
      clear hb8
      go_wp2
      go_ret
      exact ⟨rfl, FB.out⟩
    · obtain ⟨hh, hsub⟩ := HITq.out.sub hok
      subst hh
      have HSUB := Lib.hid hsub
      clear hok hsub HITq v0 v1 HP37 HLF
      go_wp2
      go_loopw [6, 7] (fun av iv wr => ∃ a i : Nat, a ≤ m ∧ i ≤ n ∧ av = .int .i64 a ∧ iv = .int .i64 i ∧ Hid ((qs.drop a).Sublist (ps.drop i)) ∧ Hid (Below w7.heap.size w7 wr)) (fun _ iv _ => n - (intOf iv).toNat)
      case atStart => exact ⟨0, 0, Nat.zero_le _, Nat.zero_le _, rfl, rfl, HSUB.out, Below.refl _ _⟩
      case round =>
        clear HSUB
        obtain ⟨a, i, ha, hi, rfl, rfl, HS, HBX⟩ := hrel
        replace c0 := cell_keep HBX.out c0
        replace c1 := cell_keep HBX.out c1
        replace t0 := cell_keep HBX.out t0
        replace t1 := cell_keep HBX.out t1
        by_cases hin : i < n
        · have hin' : (i : Int) < (n : Int) := by omega
          by_cases ham : a < m
          · have ham' : (a : Int) < (m : Int) := by omega
            have hip : i < ps.length := by have := HPN.out; omega
            have haq : a < qs.length := by have := HMq.out; omega
            obtain ⟨b, off, eA, _⟩ := (HPX7.out.keep HBX.out).at_ hip
            obtain ⟨b', off', eA5, _⟩ := (HP57.out.keep HBX.out).at_ haq
            subst eA eA5
            have LF : Hid (∀ (k k' : Nat) (X : World), Below wr.heap.size wr X → Calls Try.prog 8 #[.agg #[.int .i64 1, .slice (some ⟨b, off + i * 2, none⟩) 1 k], .agg #[.int .i64 1, .slice (some ⟨b', off' + a * 2, none⟩) 1 k']] X fun e w' => e = .returned (.bool (decide (ps[i] = qs[a]))) ∧ Below X.heap.size X w') := fun k k' X hX => by
              have h := lfCfg_any 1 1 [ps[i]] [qs[a]] (some ⟨b, off + i * 2, none⟩) (some ⟨b', off' + a * 2, none⟩) k k' X (pds_one ((HPX7.out.keep HBX.out).keep hX) hip) (pds_one ((HP57.out.keep HBX.out).keep hX) haq) (by simp) (by simp) (fun x hx => by rw [List.mem_singleton] at hx; subst hx; exact HSM.out _ (List.getElem_mem hip)) (fun x hx => by rw [List.mem_singleton] at hx; subst hx; exact HSQ.out _ (List.getElem_mem haq))
              exact h.mono fun e w' ⟨h1, h2⟩ => ⟨by rw [h1]; unfold eqCB; simp, h2⟩
            have HIT : Hid (ps[i] = qs[a] → (qs.drop (a + 1)).Sublist (ps.drop (i + 1))) := fun h => greedy_hit HS.out haq hip h
            have MIS : Hid (ps[i] ≠ qs[a] → (qs.drop a).Sublist (ps.drop (i + 1))) := fun h => greedy_miss HS.out haq hip h
            generalize ps[i] = p at *
            generalize qs[a] = q at *
            have hi1 : (i : Int) + 1 ≤ (cap : Int) := by omega
            have ha1 : (a : Int) + 1 ≤ (cap5 : Int) := by omega
            clear HS
            have hn1 := HN.out
            have li : ((i : Int) + 1).toNat - i = 1 := by omega
            have la : ((a : Int) + 1).toNat - a = 1 := by omega
            have HBY := Lib.hid (below_box (w := wr) (.cells #[.int .i64 1, .slice (some ⟨b, off + i * 2, none⟩) 1 (cap - i)] 25))
            have t1' := cell_keep HBY.out t1
            have hbz : Below wr.heap.size wr ((wr.alloc (.cells #[.int .i64 1, .slice (some ⟨b, off + i * 2, none⟩) 1 (cap - i)] 25)).alloc (.cells #[.int .i64 1, .slice (some ⟨b', off' + a * 2, none⟩) 1 (cap5 - a)] 25)) := (below_box _).alloc (by simp) _
            have x0 : ((wr.alloc (.cells #[.int .i64 1, .slice (some ⟨b, off + i * 2, none⟩) 1 (cap - i)] 25)).alloc (.cells #[.int .i64 1, .slice (some ⟨b', off' + a * 2, none⟩) 1 (cap5 - a)] 25)).cell? ⟨wr.heap.size, 0, none⟩ = some (.int .i64 1) := cell_alloc (by simp) _
            have x1 : ((wr.alloc (.cells #[.int .i64 1, .slice (some ⟨b, off + i * 2, none⟩) 1 (cap - i)] 25)).alloc (.cells #[.int .i64 1, .slice (some ⟨b', off' + a * 2, none⟩) 1 (cap5 - a)] 25)).cell? ⟨wr.heap.size, 1, none⟩ = some (.slice (some ⟨b, off + i * 2, none⟩) 1 (cap - i)) := cell_alloc (by simp) _
            have HBZ := Lib.hid hbz
            have LF2 := Lib.hid (LF.out (cap - i) (cap5 - a) _ hbz)
            clear hbz HBY LF
            by_cases he : p = q
            · rw [decide_eq_true he] at LF2
              have NS := Lib.hid (HIT.out he)
              clear he HIT MIS
              go_wp2_with fail
              refine LF2.out.mono ?_
              rintro e w9 ⟨rfl, hb9⟩
              have FB := Lib.hid (HBX.out.trans ((HBZ.out.trans (hb9.mono HBZ.out.size)).mono HBX.out.size))
              clear hb9 HBZ HBX x0 x1 t1' li la
              go_wp2
              go_roundw
              case rel => exact ⟨a + 1, i + 1, by omega, by omega, by go_num, by go_num, NS, FB⟩
              case measure => simp [intOf]; omega
            · rw [decide_eq_false he] at LF2
              have NS := Lib.hid (MIS.out he)
              clear he HIT MIS
              go_wp2_with fail
              refine LF2.out.mono ?_
              rintro e w9 ⟨rfl, hb9⟩
              have FB := Lib.hid (HBX.out.trans ((HBZ.out.trans (hb9.mono HBZ.out.size)).mono HBX.out.size))
              clear hb9 HBZ HBX x0 x1 t1' li la
              go_wp2
              go_roundw
              case rel => exact ⟨a, i + 1, by omega, by omega, by go_num, by go_num, NS, FB⟩
              case measure => simp [intOf]; omega
          · have ham' : ¬ (a : Int) < (m : Int) := by omega
            have e : a = m := by omega
            subst e
            have FB := Lib.hid (HB7.out.trans (HBX.out.mono HB7.out.size))
            clear HS HBX
            go_wp2
            go_ret
            exact ⟨rfl, FB.out⟩
        · have hin' : ¬ (i : Int) < (n : Int) := by omega
          have e : a = m := by
            have h := greedy_end HS.out (by have := HPN.out; omega)
            have := HMq.out
            omega
          subst e
          have FB := Lib.hid (HB7.out.trans (HBX.out.mono HB7.out.size))
          clear HS HBX
          go_wp2
          go_ret
          exact ⟨rfl, FB.out⟩

end Go.Proofs.Ytkgiklmdpdakbaa

