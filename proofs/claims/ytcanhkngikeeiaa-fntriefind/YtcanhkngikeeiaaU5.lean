/- Stable sorting: two sorted rows are merged. -/
import Derived.Test.YtcanhkngikeeiaaU4
namespace Go.Proofs.Ytcanhkngikeeiaa
open Go.Shelf Go.RowKit Go.Lib Go.Sort
set_option linter.unusedVariables false

section
variable {blk off a s m e b mid : Nat} {d0 d d1 d2 d3 : Array PP} {w0 w w1 w2 : World}
theorem merge_fin (P : Parts a s m e b d) (hr : Rot s m e d d1) (hp : PermIn a b d d1) (hmid : mid = s + (e - m)) (h1 : Merged a mid d1 d2) (h2 : Merged mid b d2 d3) (hb : b ≤ d.size) : Merged a b d d3 := by
  have p1 := P.as; have p2 := P.sm; have p3 := P.me; have p4 := P.eb
  obtain ⟨_, _, _, _, _, _, hx⟩ := P.split hr hmid
  have z1 : d1.size = d.size := hr.1
  have z2 : d2.size = d1.size := h1.1.1
  refine ⟨permIn_trans _ _ _ _ _ hp (permIn_trans _ _ _ _ _ (permIn_mono _ _ _ _ _ _ (Nat.le_refl _) (by omega) (by omega) h1.1) (permIn_mono _ _ _ _ _ _ (by omega) (Nat.le_refl _) (by omega) h2.1)), join_sorted hx h1 h2 (by omega) (by omega) (by omega)⟩
theorem lo_no (P : Parts a s m e b d) (hr : Rot s m e d d1) (hmid : mid = s + (e - m)) (h : ¬ (a < s ∧ s < mid)) : Merged a mid d1 d1 := by
  have p1 := P.as; have p2 := P.sm; have p3 := P.me; have p4 := P.eb
  obtain ⟨k1, k2, _, _, _, _, _⟩ := P.split hr hmid
  refine ⟨permIn_refl _ _ _, ?_⟩
  by_cases c : a = s
  · subst c; exact k2
  · obtain rfl : mid = s := by omega
    exact k1
theorem hi_no (P : Parts a s m e b d) (hr : Rot s m e d d1) (hmid : mid = s + (e - m)) (h1 : Merged a mid d1 d2) (h : ¬ (mid < e ∧ e < b)) : Merged mid b d2 d2 := by
  have p1 := P.as; have p2 := P.sm; have p3 := P.me; have p4 := P.eb
  obtain ⟨_, _, _, k1, k2, _, _⟩ := P.split hr hmid
  have g : ∀ k, mid ≤ k → d2[k]! = d1[k]! := fun k hk => h1.1.2.1 k (.inr hk)
  refine ⟨permIn_refl _ _ _, fun i j hi hij hj => ?_⟩
  rw [g i hi, g j (by omega)]
  by_cases c : mid = e
  · subst c; exact k2 i j hi hij hj
  · obtain rfl : e = b := by omega
    exact k1 i j hi hij hj
theorem ToMerge.lo (T : ToMerge blk off a m b d0 d w0 w) (P : Parts a s m e b d) (hr : Rot s m e d d1) (hmid : mid = s + (e - m)) (S : SWK enc 2 w0 blk off d1 w1) (h1 : a < s) (h2 : s < mid) : ToMerge blk off a s mid d0 d1 w0 w1 := by
  have p1 := P.as; have p2 := P.sm; have p3 := P.me; have p4 := P.eb
  have q1 := T.hb; have q2 := T.sz
  obtain ⟨k1, k2, k3, _, _, _, _⟩ := P.split hr hmid
  exact ⟨T.R, T.hs.trans hr.1.symm, S, h1, h2, by rw [hr.1]; omega, by rw [hr.1]; exact q2, k1, k2, k3⟩
theorem ToMerge.hi (T : ToMerge blk off a m b d0 d w0 w) (P : Parts a s m e b d) (hr : Rot s m e d d1) (hmid : mid = s + (e - m)) (hm : Merged a mid d1 d2) (S : SWK enc 2 w0 blk off d2 w2) (h1 : mid < e) (h2 : e < b) : ToMerge blk off mid e b d0 d2 w0 w2 := by
  have p1 := P.as; have p2 := P.sm; have p3 := P.me; have p4 := P.eb
  have q1 := T.hb; have q2 := T.sz
  obtain ⟨_, _, _, k1, k2, k3, _⟩ := P.split hr hmid
  have g : ∀ k, mid ≤ k → d2[k]! = d1[k]! := fun k hk => hm.1.2.1 k (.inr hk)
  have z : d2.size = d.size := hm.1.1.trans hr.1
  refine ⟨T.R, T.hs.trans z.symm, S, h1, h2, by rw [z]; omega, by rw [z]; exact q2, fun i j hi hij hj => ?_, fun i j hi hij hj => ?_, fun i j h1 h2 h3 h4 => ?_⟩
  · rw [g i hi, g j (by omega)]; exact k1 i j hi hij hj
  · rw [g i (by omega), g j (by omega)]; exact k2 i j hi hij hj
  · rw [g i h1, g j (by omega)]; exact k3 i j h1 h2 h3 h4
end

/-- What is known of merging shorter rows. -/
def Shorter (blk off cap : Nat) (d0 : Array PP) (w0 : World) (N : Nat) : Prop := ∀ (a m b : Nat) (d : Array PP) (w : World), ToMerge blk off a m b d0 d w0 w → b - a < N →
  Calls Try.prog 93 #[.slice (some ⟨blk, off, none⟩) d.size cap, .int .i64 a, .int .i64 m, .int .i64 b, .func (.func 84) #[] #[]] w (Sorts blk off a b d w0)

set_option maxHeartbeats 8000000 in
set_option maxRecDepth 1000000 in
theorem symMerge_mid (blk off cap a m b : Nat) (d0 d : Array PP) (w0 w : World) (T : ToMerge blk off a m b d0 d w0 w) (hm : m ≠ a + 1) (hb1 : b ≠ m + 1) (IH : Shorter blk off cap d0 w0 (b - a)) :
    Calls Try.prog 93 #[.slice (some ⟨blk, off, none⟩) d.size cap, .int .i64 a, .int .i64 m, .int .i64 b, .func (.func 84) #[] #[]] w (Sorts blk off a b d w0) := by
  have mixed := mixedT
  have aE := agg105
  have eg := enters84
  obtain ⟨k, hk2⟩ : ∃ k, k = 2 := ⟨_, rfl⟩
  have zE : ∀ w, (Go.sizeOf 105).run Try.prog w = .ok k w := fun w => by rw [hk2]; exact size105 w
  have R : RowK enc k w0 blk off d0 := by rw [hk2]; exact T.R
  have HS := Lib.hid T.hs.symm
  have HC : Hid (CmpLays Try.prog 84 #[] enc k cfP blk off d.size w0) := by rw [hk2]; exact cmpLays84 blk off d.size w0
  have HK := Lib.hid hk2
  have HT := Lib.hid T
  have hmb := T.mb
  have ham := T.am
  have hbd := T.hb
  have hsz := T.sz
  have S0 : Aside (SWK enc k w0 blk off d w) := by rw [hk2]; exact T.S
  clear hk2 T
  have HIH := Lib.hid IH
  clear IH
  have he : ((m : Int) - (a : Int) == 1) = false := by simp; omega
  have he2 : ((b : Int) - (m : Int) == 1) = false := by simp; omega
  obtain ⟨mid, hmid⟩ : ∃ mid : Nat, mid = (a + b) / 2 := ⟨_, rfl⟩
  have hmidz : ((a : Int) + (b : Int)) / 2 = (mid : Int) := by omega
  have HMID := Lib.hid hmid
  have hmid1 : mid * 2 ≤ a + b := by omega
  have hmid2 : a + b ≤ mid * 2 + 1 := by omega
  obtain ⟨n, hn⟩ : ∃ n : Nat, n = mid + m := ⟨_, rfl⟩
  have hnz : (mid : Int) + (m : Int) = (n : Int) := by omega
  have hn1 : n ≤ mid + m := by omega
  have hn2 : mid + m ≤ n := by omega
  have HN : Hid (n = (a + b) / 2 + m) := by rw [← hmid]; exact hn
  clear hm hb1 hmid hn
  go_enter Try.func93, Try.ntmps93
  go_upto_if 140 with fail
  clear hmidz
  go_cut [20, 21] (fun x y wx => ∃ s0 r0 : Nat, x = .int .i64 s0 ∧ y = .int .i64 r0 ∧ Hid (Bnd a m b n s0 r0) ∧ w = wx)
  case first =>
    as_aux_lemma =>
    by_cases hside : m ≤ mid
    · have hside' : ¬ (mid : Int) < (m : Int) := by omega
      go_wp2_with fail
      go_meet
      exact ⟨a, m, rfl, rfl, ⟨ham, hmb, HN.out, .inl ⟨by rw [← HMID.out]; exact hside, rfl, rfl⟩⟩, rfl⟩
    · have hside' : (mid : Int) < (m : Int) := by omega
      go_wp2_with fail
      go_meet
      exact ⟨n - b, mid, by go_num, rfl, ⟨ham, hmb, HN.out, .inr ⟨by rw [← HMID.out]; omega, rfl, HMID.out⟩⟩, rfl⟩
  obtain ⟨s0, r0, rfl, rfl, HB, rfl⟩ := hcut
  have hsr : s0 ≤ r0 := by have h1 := HB.out.s; have h2 := HN.out; rw [← HMID.out] at h1 h2; omega
  clear hnz
  go_wp2
  go_loopg [20, 21, 23] (r0 - s0) (fun kx x y z wr => ∃ (s r : Nat), x = .int .i64 s ∧ y = .int .i64 r ∧ s ≤ r ∧ r - s ≤ kx ∧ Aside (SWK enc k w0 blk off d wr ∧ Mid a m b n s0 r0 s r d))
  case atStart => exact ⟨s0, r0, rfl, rfl, hsr, Nat.le_refl _, ⟨S0.out, Nat.le_refl _, hsr, Nat.le_refl _, fun c h1 h2 => by omega, fun c h1 h2 => by omega⟩⟩
  case round =>
    clear S0
    obtain ⟨s, r, rfl, rfl, hsr2, hkx, S1⟩ := hrel
    by_cases hlt : s < r
    · have hlt' : (s : Int) < (r : Int) := by omega
      obtain ⟨c, hh, hi, hj⟩ : ∃ c : Nat, ((s : Int) + (r : Int)) / 2 = (c : Int) ∧ s ≤ c ∧ c < r := ⟨(s + r) / 2, by omega, by omega, by omega⟩
      have hb0 := HB.out.at_ (c := c) (by have := S1.out.2.s0s; omega) (by have := S1.out.2.rr0; omega)
      obtain ⟨q, hqz, hq1, hq2, hq3⟩ : ∃ q : Nat, (n : Int) - 1 - (c : Int) = (q : Int) ∧ m ≤ q ∧ q < b ∧ q = n - 1 - c := ⟨n - 1 - c, by omega, by omega, by omega, rfl⟩
      have HQ := Lib.hid hq3
      clear hq3
      have wq1 : IntKind.i64.wrap ((n : Int) - 1 - (c : Int)) = (q : Int) := by rw [IntKind.wrap_i64]; omega
      have wq2 : IntKind.i64.wrap (q : Int) = (q : Int) := by rw [IntKind.wrap_i64]; omega
      by_cases hlv : cfP d[q]! d[c]! < 0
      · as_aux_lemma =>
        have HLV := Lib.hid (cfP_neg.1 hlv)
        have hlv0 : ¬ 0 ≤ cfP d[q]! d[c]! := by omega
        have hlv1 : decide (cfP d[q]! d[c]! < 0) = true := decide_eq_true hlv
        have eq : ((q : Int)).toNat = q := by omega
        have pq : (0 : Int) ≤ (q : Int) := by omega
        have bq : (q : Int) < (d.size : Int) := by omega
        have ec : ((c : Int)).toNat = c := by omega
        have pc : (0 : Int) ≤ (c : Int) := by omega
        have bc : (c : Int) < (d.size : Int) := by omega
        have lx := fun n os => S1.out.1.ld R HS.out Try.prog q (by omega) n os
        have ly := fun n os => S1.out.1.ld R HS.out Try.prog c (by omega) n os
        have hcg := fun n os => S1.out.1.cmp HC.out rfl d[q]! d[c]! n os
        have SG := fun n os => S1.out.1.grown n os
        have HSG := Lib.hid SG
        clear SG
        generalize hvx : d[q]! = vx at lx hcg hlv hlv0 hlv1
        generalize hvy : d[c]! = vy at ly hcg hlv hlv0 hlv1
        have HV := Lib.hid (And.intro hvx hvy)
        clear hvx hvy
        go_wp2_with fail
        go_quiet_grown (first | (go_at_fn 84; refine Calls.grown_of (hcg _ _)))
        have S2 : Aside (SWK enc k w0 blk off d (grow (wr.drewN nq) osq)) := HSG.out nq osq
        clear lx ly hcg HSG
        generalize grow (wr.drewN nq) osq = w2 at S2 ⊢
        go_wp2
        go_roundg (c - s)
        case measure => omega
        case rel => exact ⟨s, c, rfl, by first | rfl | go_num, hi, Nat.le_refl _, ⟨S2.out, by
            have hL := HLV.out
            rw [HT.out.c.lt (by omega) (by omega) (by omega) (by omega), HQ.out] at hL
            exact S1.out.2.stay HB.out HT.out.l HT.out.r hi hj hL⟩⟩
      · as_aux_lemma =>
        have HLV := Lib.hid (show ltT d[q]! d[c]! = false by cases h : ltT d[q]! d[c]!; rfl; exact absurd (cfP_neg.2 h) hlv)
        have hlv0 : 0 ≤ cfP d[q]! d[c]! := by omega
        have hlv1 : (!decide (cfP d[q]! d[c]! < 0)) = true := by rw [decide_eq_false hlv]; rfl
        have eq : ((q : Int)).toNat = q := by omega
        have pq : (0 : Int) ≤ (q : Int) := by omega
        have bq : (q : Int) < (d.size : Int) := by omega
        have ec : ((c : Int)).toNat = c := by omega
        have pc : (0 : Int) ≤ (c : Int) := by omega
        have bc : (c : Int) < (d.size : Int) := by omega
        have lx := fun n os => S1.out.1.ld R HS.out Try.prog q (by omega) n os
        have ly := fun n os => S1.out.1.ld R HS.out Try.prog c (by omega) n os
        have hcg := fun n os => S1.out.1.cmp HC.out rfl d[q]! d[c]! n os
        have SG := fun n os => S1.out.1.grown n os
        have HSG := Lib.hid SG
        clear SG
        generalize hvx : d[q]! = vx at lx hcg hlv hlv0 hlv1
        generalize hvy : d[c]! = vy at ly hcg hlv hlv0 hlv1
        have HV := Lib.hid (And.intro hvx hvy)
        clear hvx hvy
        go_wp2_with fail
        go_quiet_grown (first | (go_at_fn 84; refine Calls.grown_of (hcg _ _)))
        have S2 : Aside (SWK enc k w0 blk off d (grow (wr.drewN nq) osq)) := HSG.out nq osq
        clear lx ly hcg HSG
        generalize grow (wr.drewN nq) osq = w2 at S2 ⊢
        go_wp2
        go_roundg (r - (c + 1))
        case measure => omega
        case rel => exact ⟨c + 1, r, by go_num, rfl, by omega, Nat.le_refl _, ⟨S2.out, by
            have hL := HLV.out
            rw [HT.out.c.lt (by omega) (by omega) (by omega) (by omega), HQ.out] at hL
            exact S1.out.2.go HB.out HT.out.l HT.out.r hi hj hL⟩⟩
    · as_aux_lemma =>
      have hlt' : ¬ (s : Int) < (r : Int) := by omega
      obtain rfl : s = r := by omega
      obtain ⟨PT, hmd⟩ := S1.out.2.done HB.out HT.out.l HT.out.r HT.out.c
      obtain ⟨e, hee⟩ : ∃ e : Nat, e = n - s := ⟨_, rfl⟩
      rw [← hee] at PT hmd
      have HP := Lib.hid PT
      have HMD : Hid (mid = s + (e - m)) := by rw [← HMID.out] at hmd; exact hmd.symm
      have g1 := PT.as
      have g2 := PT.sm
      have g3 := PT.me
      have g4 := PT.eb
      have hmd2 : s + (e - m) ≤ mid := by rw [← HMD.out]; exact Nat.le_refl _
      have hmd3 : mid ≤ s + (e - m) := by rw [← HMD.out]; exact Nat.le_refl _
      have hen : (n : Int) - (s : Int) = (e : Int) := by omega
      have HSW : Hid (SWK enc 2 w0 blk off d wr) := by rw [← HK.out]; exact S1.out.1
      clear hee hmd PT S1
      go_upto_region 39 with fail
      go_cut [185] (fun c wx => c = .bool (decide (s < m) && decide (m < e)) ∧ wr = wx)
      case first =>
        as_aux_lemma =>
        by_cases c1 : s < m
        · have c1' : (s : Int) < (m : Int) := by omega
          by_cases c2 : m < e
          · have c2' : (m : Int) < (e : Int) := by omega
            go_wp2_with fail
            go_meet
            exact ⟨by simp [c1, c2], rfl⟩
          · have c2' : ¬ (m : Int) < (e : Int) := by omega
            go_wp2_with fail
            go_meet
            exact ⟨by simp [c1, c2], rfl⟩
        · have c1' : ¬ (s : Int) < (m : Int) := by omega
          go_wp2_with fail
          go_meet
          exact ⟨by simp [c1], rfl⟩
      obtain ⟨rfl, rfl⟩ := hcut
      generalize hbb : (decide (s < m) && decide (m < e)) = bb
      have HRT : Hid (bb = true ↔ s < m ∧ m < e) := by rw [← hbb]; simp [Hid]
      clear hbb
      clear hen
      go_upto_if 185 with fail
      go_cut [] (fun wx => ∃ d1 : Array PP, Hid (Rot s m e d d1 ∧ PermIn a b d d1 ∧ SWK enc 2 w0 blk off d1 wx))
      case first =>
        as_aux_lemma =>
        cases bb
        · have hno : ¬ (s < m ∧ m < e) := fun h => by have := HRT.out.2 h; cases this
          go_wp2_with fail
          go_meet
          exact ⟨d, Rot.none d (by omega) g2 g3, permIn_refl _ _ _, HSW.out⟩
        · have hyes := HRT.out.1 rfl
          have HCR := Lib.hid (rotate_any (.func (.func 84) #[] #[]) 2 rfl blk off cap s m e d0 d w0 wr HT.out.R HT.out.hs HSW.out hyes.1 hyes.2 (by omega) (by omega))
          go_wp2_with fail
          refine HCR.out.mono ?_
          rintro e1 w1 ⟨rfl, d1, k1, k2, k3⟩
          have HD1 := Lib.hid (And.intro k1 (And.intro (k2 a b (by omega) (by omega) hbd) k3))
          clear HCR k1 k2 k3
          go_wp2_with fail
          go_meet
          exact ⟨d1, HD1.out⟩
      as_aux_lemma =>
      obtain ⟨d1, HD1⟩ := hcut
      clear HRT HSW
      go_upto_region 41 with fail
      go_cut [199] (fun c wx => c = .bool (decide (a < s) && decide (s < mid)) ∧ wc = wx)
      case first =>
        as_aux_lemma =>
        by_cases c1 : a < s
        · have c1' : (a : Int) < (s : Int) := by omega
          by_cases c2 : s < mid
          · have c2' : (s : Int) < (mid : Int) := by omega
            go_wp2_with fail
            go_meet
            exact ⟨by simp [c1, c2], rfl⟩
          · have c2' : ¬ (s : Int) < (mid : Int) := by omega
            go_wp2_with fail
            go_meet
            exact ⟨by simp [c1, c2], rfl⟩
        · have c1' : ¬ (a : Int) < (s : Int) := by omega
          go_wp2_with fail
          go_meet
          exact ⟨by simp [c1], rfl⟩
      obtain ⟨rfl, rfl⟩ := hcut
      generalize hbb : (decide (a < s) && decide (s < mid)) = bb
      have HRT : Hid (bb = true ↔ a < s ∧ s < mid) := by rw [← hbb]; simp [Hid]
      clear hbb
      go_upto_if 199 with fail
      go_cut [] (fun wx => ∃ d2 : Array PP, Hid (Merged a mid d1 d2 ∧ SWK enc 2 w0 blk off d2 wx))
      case first =>
        as_aux_lemma =>
        cases bb
        · have hno : ¬ (a < s ∧ s < mid) := fun h => by have := HRT.out.2 h; cases this
          go_wp2_with fail
          go_meet
          exact ⟨d1, lo_no HP.out HD1.out.1 HMD.out hno, HD1.out.2.2⟩
        · have hyes := HRT.out.1 rfl
          have hc := HIH.out a s mid d1 wc (HT.out.lo HP.out HD1.out.1 HMD.out HD1.out.2.2 hyes.1 hyes.2) (by omega)
          rw [HD1.out.1.1] at hc
          have HCR := Lib.hid hc
          clear hc
          go_wp2_with fail
          refine HCR.out.mono ?_
          rintro e1 w1 ⟨rfl, d2, k1, k2⟩
          have HD2 := Lib.hid (And.intro k1 k2)
          clear HCR k1 k2
          go_wp2_with fail
          go_meet
          exact ⟨d2, HD2.out⟩
      as_aux_lemma =>
      obtain ⟨d2, HD2⟩ := hcut
      clear HRT
      go_upto_region 43 with fail
      go_cut [213] (fun c wx => c = .bool (decide (mid < e) && decide (e < b)) ∧ wc = wx)
      case first =>
        as_aux_lemma =>
        by_cases c1 : mid < e
        · have c1' : (mid : Int) < (e : Int) := by omega
          by_cases c2 : e < b
          · have c2' : (e : Int) < (b : Int) := by omega
            go_wp2_with fail
            go_meet
            exact ⟨by simp [c1, c2], rfl⟩
          · have c2' : ¬ (e : Int) < (b : Int) := by omega
            go_wp2_with fail
            go_meet
            exact ⟨by simp [c1, c2], rfl⟩
        · have c1' : ¬ (mid : Int) < (e : Int) := by omega
          go_wp2_with fail
          go_meet
          exact ⟨by simp [c1], rfl⟩
      obtain ⟨rfl, rfl⟩ := hcut
      generalize hbb : (decide (mid < e) && decide (e < b)) = bb
      have HRT : Hid (bb = true ↔ mid < e ∧ e < b) := by rw [← hbb]; simp [Hid]
      clear hbb
      cases bb
      · have hno : ¬ (mid < e ∧ e < b) := fun h => by have := HRT.out.2 h; cases this
        go_wp2
        go_end0
        exact ⟨rfl, d2, merge_fin HP.out HD1.out.1 HD1.out.2.1 HMD.out HD2.out.1 (hi_no HP.out HD1.out.1 HMD.out HD2.out.1 hno) hbd, HD2.out.2⟩
      · have hyes := HRT.out.1 rfl
        have hc := HIH.out mid e b d2 wc (HT.out.hi HP.out HD1.out.1 HMD.out HD2.out.1 HD2.out.2 hyes.1 hyes.2) (by omega)
        rw [show d2.size = d.size from HD2.out.1.1.1.trans HD1.out.1.1] at hc
        have HCR := Lib.hid hc
        clear hc
        go_wp2_with fail
        refine HCR.out.mono ?_
        rintro e1 w1 ⟨rfl, d3, k1, k2⟩
        have HD3 := Lib.hid (And.intro k1 k2)
        clear HCR k1 k2
        go_wp2
        go_end0
        exact ⟨rfl, d3, merge_fin HP.out HD1.out.1 HD1.out.2.1 HMD.out HD2.out.1 HD3.out.1 hbd, HD3.out.2⟩

theorem symMerge_any (blk off cap : Nat) (d0 : Array PP) (w0 : World) : ∀ N, Shorter blk off cap d0 w0 N
  | 0 => fun a m b d w T h => by omega
  | N + 1 => fun a m b d w T h => by
    by_cases h1 : m = a + 1
    · exact symMerge_left blk off cap a m b d0 d w0 w T h1
    · by_cases h2 : b = m + 1
      · exact symMerge_right blk off cap a m b d0 d w0 w T h1 h2
      · exact symMerge_mid blk off cap a m b d0 d w0 w T h1 h2 (fun a' m' b' d' w' T' h' => symMerge_any blk off cap d0 w0 N a' m' b' d' w' T' (by omega))


end Go.Proofs.Ytcanhkngikeeiaa
