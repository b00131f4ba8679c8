/- Stable sorting: two sorted rows are merged: one piece on the left, or one on the right. -/
import Derived.Test.YtcanhkngikeeiaaU3
namespace Go.Proofs.Ytcanhkngikeeiaa
open Go.Shelf Go.RowKit Go.Lib Go.Sort
set_option linter.unusedVariables false

/-- What is known of a row that is to be merged. -/
structure ToMerge (blk off a m b : Nat) (d0 d : Array PP) (w0 w : World) : Prop where
  R : RowK enc 2 w0 blk off d0
  hs : d0.size = d.size
  S : SWK enc 2 w0 blk off d w
  am : a < m
  mb : m < b
  hb : b ≤ d.size
  sz : d.size ≤ 1048576
  l : SortedIn ltL a m d
  r : SortedIn ltL m b d
  c : Cross a m b d

theorem Rot.up {a t : Nat} {d dk : Array PP} (h : Rot a (a + 1) (t + 1) d dk) (hat : a ≤ t) (ht : t + 1 < d.size) : Rot a (a + 1) (t + 1 + 1) d (swp dk t (t + 1)) := by
  obtain ⟨h1, h2⟩ := h
  refine ⟨by rw [swp_size, h1], fun k => ?_⟩
  simp only [swp_get dk (show t < dk.size by omega) (show t + 1 < dk.size by omega), h2]
  repeat' split
  all_goals first | omega | exact at_eq _ (by omega)
theorem Rot.down {m t : Nat} {d dk : Array PP} (h : Rot (t + 1) m (m + 1) d dk) (ht : t + 1 ≤ m) (hm : m < d.size) : Rot t m (m + 1) d (swp dk (t + 1) t) := by
  obtain ⟨h1, h2⟩ := h
  refine ⟨by rw [swp_size, h1], fun k => ?_⟩
  simp only [swp_get dk (show t + 1 < dk.size by omega) (show t < dk.size by omega), h2]
  repeat' split
  all_goals first | omega | exact at_eq _ (by omega)

/-- A piece of the right is compared with one of the left: by the bytes alone, or by the places too. -/
theorem Cross.lt {a m b x y : Nat} {d : Array PP} (h : Cross a m b d) (h1 : a ≤ x) (h2 : x < m) (h3 : m ≤ y) (h4 : y < b) : ltT d[y]! d[x]! = ltL d[y]! d[x]! := ltT_of_id (h x y h1 h2 h3 h4)

theorem lt_mono' {x y y' : PP} (h : ltL y x = true) (hy : ltL y y' = false) : ltL y' x = true := lt_mono h hy (swo_ltL.irrefl _)

set_option maxHeartbeats 4000000 in
set_option maxRecDepth 1000000 in
theorem symMerge_left (blk off cap a m b : Nat) (d0 d : Array PP) (w0 w : World) (T : ToMerge blk off a m b d0 d w0 w) (hm : m = a + 1) :
    Calls Try.prog 93 #[.slice (some ⟨blk, off, none⟩) d.size cap, .int .i64 a, .int .i64 m, .int .i64 b, .func (.func 84) #[] #[]] w (Sorts blk off a b d w0) := by
  have mixed := mixedT
  have aE := agg105
  have eg := enters84
  obtain ⟨k, hk2⟩ : ∃ k, k = 2 := ⟨_, rfl⟩
  have zE : ∀ w, (Go.sizeOf 105).run Try.prog w = .ok k w := fun w => by rw [hk2]; exact size105 w
  have R : RowK enc k w0 blk off d0 := by rw [hk2]; exact T.R
  have HS := Lib.hid T.hs.symm
  have HC : Hid (CmpLays Try.prog 84 #[] enc k cfP blk off d.size w0) := by rw [hk2]; exact cmpLays84 blk off d.size w0
  have HK := Lib.hid hk2
  have HT := Lib.hid T
  have hmb := T.mb
  have ham := T.am
  have hbd := T.hb
  have hsz := T.sz
  have S0 : Aside (SWK enc k w0 blk off d w) := by rw [hk2]; exact T.S
  clear hk2 T
  have he : ((m : Int) - (a : Int) == 1) = true := by simp; omega
  have HM := Lib.hid hm
  have hm1 : a + 1 ≤ m := by omega
  have hm2 : m ≤ a + 1 := by omega
  clear hm
  go_enter Try.func93, Try.ntmps93
  go_wp2
  go_loopg [10, 11, 12] (b - a) (fun kx s10 s11 s12 wr => ∃ (i j : Nat), s10 = .int .i64 i ∧ s11 = .int .i64 j ∧ m ≤ i ∧ i ≤ j ∧ j ≤ b ∧ j - i ≤ kx ∧ Aside (SWK enc k w0 blk off d wr ∧ (∀ h, m ≤ h → h < i → ltL d[h]! d[a]! = true) ∧ (∀ h, j ≤ h → h < b → ltL d[h]! d[a]! = false)))
  case atStart => exact ⟨m, b, rfl, rfl, Nat.le_refl _, by omega, Nat.le_refl _, by omega, ⟨S0.out, fun h h1 h2 => by omega, fun h h1 h2 => by omega⟩⟩
  case round =>
    clear S0
    obtain ⟨i, j, rfl, rfl, h1, h2, h3, h4, S1⟩ := hrel
    by_cases hlt : i < j
    · have hlt' : (i : Int) < (j : Int) := by omega
      obtain ⟨h, hh, hi, hj⟩ : ∃ h : Nat, ((i : Int) + (j : Int)) / 2 = (h : Int) ∧ i ≤ h ∧ h < j := ⟨(i + j) / 2, by omega, by omega, by omega⟩
      by_cases hlv : cfP d[h]! d[a]! < 0
      · have HLV := Lib.hid (cfP_neg.1 hlv)
        have hlv0 : ¬ 0 ≤ cfP d[h]! d[a]! := by omega
        have hlv1 : decide (cfP d[h]! d[a]! < 0) = true := decide_eq_true hlv
        have eh : ((h : Int)).toNat = h := by omega
        have ph : (0 : Int) ≤ (h : Int) := by omega
        have bh : (h : Int) < (d.size : Int) := by omega
        have ea : ((a : Int)).toNat = a := by omega
        have pa : (0 : Int) ≤ (a : Int) := by omega
        have ba : (a : Int) < (d.size : Int) := by omega
        have lx := fun n os => S1.out.1.ld R HS.out Try.prog h (by omega) n os
        have ly := fun n os => S1.out.1.ld R HS.out Try.prog a (by omega) n os
        have hcg := fun n os => S1.out.1.cmp HC.out rfl d[h]! d[a]! n os
        have SG := fun n os => S1.out.1.grown n os
        have HSG := Lib.hid SG
        clear SG
        generalize hvx : d[h]! = vx at lx hcg hlv hlv0 hlv1
        generalize hvy : d[a]! = vy at ly hcg hlv hlv0 hlv1
        have HV := Lib.hid (And.intro hvx hvy)
        clear hvx hvy
        go_wp2_with fail
        go_quiet_grown (first | (go_at_fn 84; refine Calls.grown_of (hcg _ _)))
        have S2 : Aside (SWK enc k w0 blk off d (grow (wr.drewN nq) osq)) := HSG.out nq osq
        clear lx ly hcg HSG
        generalize grow (wr.drewN nq) osq = w2 at S2 ⊢
        go_wp2
        go_roundg (j - (h + 1))
        case measure => omega
        case rel => exact ⟨h + 1, j, by go_num, rfl, by omega, by omega, h3, Nat.le_refl _, ⟨S2.out, fun x x1 x2 => by
            have hL := HLV.out
            rw [HT.out.c.lt (Nat.le_refl _) ham (by omega) (by omega)] at hL
            exact lt_mono' hL (srt_le HT.out.r (by omega) (by omega) (by omega)), S1.out.2.2⟩⟩
      · have HLV := Lib.hid (show ltT d[h]! d[a]! = false by cases h : ltT d[h]! d[a]!; rfl; exact absurd (cfP_neg.2 h) hlv)
        have hlv0 : 0 ≤ cfP d[h]! d[a]! := by omega
        have hlv1 : (!decide (cfP d[h]! d[a]! < 0)) = true := by rw [decide_eq_false hlv]; rfl
        have eh : ((h : Int)).toNat = h := by omega
        have ph : (0 : Int) ≤ (h : Int) := by omega
        have bh : (h : Int) < (d.size : Int) := by omega
        have ea : ((a : Int)).toNat = a := by omega
        have pa : (0 : Int) ≤ (a : Int) := by omega
        have ba : (a : Int) < (d.size : Int) := by omega
        have lx := fun n os => S1.out.1.ld R HS.out Try.prog h (by omega) n os
        have ly := fun n os => S1.out.1.ld R HS.out Try.prog a (by omega) n os
        have hcg := fun n os => S1.out.1.cmp HC.out rfl d[h]! d[a]! n os
        have SG := fun n os => S1.out.1.grown n os
        have HSG := Lib.hid SG
        clear SG
        generalize hvx : d[h]! = vx at lx hcg hlv hlv0 hlv1
        generalize hvy : d[a]! = vy at ly hcg hlv hlv0 hlv1
        have HV := Lib.hid (And.intro hvx hvy)
        clear hvx hvy
        go_wp2_with fail
        go_quiet_grown (first | (go_at_fn 84; refine Calls.grown_of (hcg _ _)))
        have S2 : Aside (SWK enc k w0 blk off d (grow (wr.drewN nq) osq)) := HSG.out nq osq
        clear lx ly hcg HSG
        generalize grow (wr.drewN nq) osq = w2 at S2 ⊢
        go_wp2
        go_roundg (h - i)
        case measure => omega
        case rel => exact ⟨i, h, rfl, by first | rfl | go_num, h1, by omega, by omega, Nat.le_refl _, ⟨S2.out, S1.out.2.1, fun x x1 x2 => by
            have hL := HLV.out
            rw [HT.out.c.lt (Nat.le_refl _) ham (by omega) (by omega)] at hL
            exact swo_ltL.ntrans _ _ _ (srt_le HT.out.r (by omega) x1 x2) hL⟩⟩
    · have hlt' : ¬ (i : Int) < (j : Int) := by omega
      obtain rfl : i = j := by omega
      go_wp2
      have S3 : Aside (Rot a m m d d ∧ PermIn a b d d ∧ SWK enc k w0 blk off d wr) := ⟨Rot.none d (.inr rfl) (by omega) (Nat.le_refl _), permIn_refl _ _ _, S1.out.1⟩
      have HL := Lib.hid S1.out.2
      clear S1
      go_loopg [13] (b - a) (fun kx s13 wr => ∃ (t : Nat) (dk : Array PP), s13 = .int .i64 t ∧ a ≤ t ∧ t + 1 ≤ i ∧ i - t ≤ kx + 1 ∧ Aside (Rot a m (t + 1) d dk ∧ PermIn a b d dk ∧ SWK enc k w0 blk off dk wr))
      case atStart => exact ⟨a, d, rfl, Nat.le_refl _, by omega, by omega, by rw [← HM.out]; exact S3⟩
      case round =>
        clear S3
        rename_i wq
        rename World => wr
        obtain ⟨t, dk, rfl, t1, t2, t3, S1⟩ := hrel
        have hds : dk.size = d.size := S1.out.1.1
        by_cases hlt : t + 1 < i
        · have hlt' : (t : Int) < (i : Int) - 1 := by omega
          have ex1 : ((t : Int)).toNat = t := by omega
          have px1 : (0 : Int) ≤ (t : Int) := by omega
          have bx1 : (t : Int) < (d.size : Int) := by omega
          have rx1 : IntKind.i64.wrap ((t : Int)) = (t : Int) := by rw [IntKind.wrap_i64]; omega
          have ey1 : ((t : Int) + 1).toNat = t + 1 := by omega
          have py1 : (0 : Int) ≤ (t : Int) + 1 := by omega
          have by1 : (t : Int) + 1 < (d.size : Int) := by omega
          have ry1 : IntKind.i64.wrap ((t : Int) + 1) = (t : Int) + 1 := by rw [IntKind.wrap_i64]; omega
          have S2 : Aside (SWK enc k w0 blk off (swp dk (t) (t + 1)) ((wr.drew.setCells blk (off + (t) * k) (enc dk[t + 1]!)).setCells blk (off + (t + 1) * k) (enc dk[t]!))) := S1.out.2.2.swapped R (t) (t + 1) (by omega) (by omega)
          have la := S1.out.2.2.ld1 R (hds.trans HS.out) Try.prog (t) (by omega)
          have lb := S1.out.2.2.ld1 R (hds.trans HS.out) Try.prog (t + 1) (by omega)
          have sa := S1.out.2.2.st1 R (hds.trans HS.out) Try.prog (t) (by omega) dk[t + 1]!
          have sb := S1.out.2.2.st2 R (hds.trans HS.out) Try.prog (t) (t + 1) (by omega) (by omega) dk[t + 1]! dk[t]!
          have na : (enc dk[t]!).length = k := R.hk _
          have nb : (enc dk[t + 1]!).length = k := R.hk _
          generalize enc dk[t]! = cI at S2 la sb na
          generalize enc dk[t + 1]! = cJ at S2 lb sa sb nb
          have S4 : Aside (Rot a m (t + 1) d dk ∧ PermIn a b d dk) := ⟨S1.out.1, S1.out.2.1⟩
          have HDS : Aside (dk.size = d.size) := hds
          clear S1 hds
          go_wp2_with fail
          go_big_region_o
          clear la lb sa sb
          generalize (wr.drew.setCells blk (off + (t) * k) cJ).setCells blk (off + (t + 1) * k) cI = w2 at S2 ⊢
          go_wp2
          go_roundg (i - (t + 2))
          case measure => omega
          case rel =>
            have hds := HDS.out
            exact ⟨t + 1, swp dk t (t + 1), by go_num, by omega, by omega, by omega, ⟨by rw [HM.out]; exact Rot.up (by rw [← HM.out]; exact S4.out.1) t1 (by omega), permIn_trans _ _ _ _ _ S4.out.2 (swp_permIn _ _ _ _ _ (by omega) (by omega) (by omega) (by omega) (by omega)), S2.out⟩⟩
        · have hlt' : ¬ (t : Int) < (i : Int) - 1 := by omega
          obtain rfl : i = t + 1 := by omega
          go_wp2
          go_end0
          obtain ⟨q1, q2, q3⟩ := S1.out
          have hr := HT.out.r
          have hc := HT.out.c
          rw [HM.out] at q1 hr hc
          refine ⟨rfl, dk, ⟨q2, left_in q1 hr hc (by omega) (by omega) hbd (fun h x1 x2 => HL.out.1 h (by omega) x2) (fun h x1 x2 => HL.out.2 h x1 x2)⟩, ?_⟩
          rw [← HK.out]; exact q3


set_option maxHeartbeats 4000000 in
set_option maxRecDepth 1000000 in
theorem symMerge_right (blk off cap a m b : Nat) (d0 d : Array PP) (w0 w : World) (T : ToMerge blk off a m b d0 d w0 w) (hm : m ≠ a + 1) (hb1 : b = m + 1) :
    Calls Try.prog 93 #[.slice (some ⟨blk, off, none⟩) d.size cap, .int .i64 a, .int .i64 m, .int .i64 b, .func (.func 84) #[] #[]] w (Sorts blk off a b d w0) := by
  have mixed := mixedT
  have aE := agg105
  have eg := enters84
  obtain ⟨k, hk2⟩ : ∃ k, k = 2 := ⟨_, rfl⟩
  have zE : ∀ w, (Go.sizeOf 105).run Try.prog w = .ok k w := fun w => by rw [hk2]; exact size105 w
  have R : RowK enc k w0 blk off d0 := by rw [hk2]; exact T.R
  have HS := Lib.hid T.hs.symm
  have HC : Hid (CmpLays Try.prog 84 #[] enc k cfP blk off d.size w0) := by rw [hk2]; exact cmpLays84 blk off d.size w0
  have HK := Lib.hid hk2
  have HT := Lib.hid T
  have hmb := T.mb
  have ham := T.am
  have hbd := T.hb
  have hsz := T.sz
  have S0 : Aside (SWK enc k w0 blk off d w) := by rw [hk2]; exact T.S
  clear hk2 T
  have he : ((m : Int) - (a : Int) == 1) = false := by simp; omega
  have he2 : ((b : Int) - (m : Int) == 1) = true := by simp; omega
  have HM := Lib.hid hb1
  have hm1 : m + 1 ≤ b := by omega
  have hm2 : b ≤ m + 1 := by omega
  clear hm hb1
  go_enter Try.func93, Try.ntmps93
  go_wp2
  go_loopg [14, 15, 16] (b - a) (fun kx s14 s15 s16 wr => ∃ (i j : Nat), s14 = .int .i64 i ∧ s15 = .int .i64 j ∧ a ≤ i ∧ i ≤ j ∧ j ≤ m ∧ j - i ≤ kx ∧ Aside (SWK enc k w0 blk off d wr ∧ (∀ h, a ≤ h → h < i → ltL d[m]! d[h]! = false) ∧ (∀ h, j ≤ h → h < m → ltL d[m]! d[h]! = true)))
  case atStart => exact ⟨a, m, rfl, rfl, Nat.le_refl _, by omega, Nat.le_refl _, by omega, ⟨S0.out, fun h h1 h2 => by omega, fun h h1 h2 => by omega⟩⟩
  case round =>
    clear S0
    obtain ⟨i, j, rfl, rfl, h1, h2, h3, h4, S1⟩ := hrel
    by_cases hlt : i < j
    · have hlt' : (i : Int) < (j : Int) := by omega
      obtain ⟨h, hh, hi, hj⟩ : ∃ h : Nat, ((i : Int) + (j : Int)) / 2 = (h : Int) ∧ i ≤ h ∧ h < j := ⟨(i + j) / 2, by omega, by omega, by omega⟩
      by_cases hlv : cfP d[m]! d[h]! < 0
      · have HLV := Lib.hid (cfP_neg.1 hlv)
        have hlv0 : ¬ 0 ≤ cfP d[m]! d[h]! := by omega
        have hlv1 : decide (cfP d[m]! d[h]! < 0) = true := decide_eq_true hlv
        have em : ((m : Int)).toNat = m := by omega
        have pm : (0 : Int) ≤ (m : Int) := by omega
        have bm : (m : Int) < (d.size : Int) := by omega
        have eh : ((h : Int)).toNat = h := by omega
        have ph : (0 : Int) ≤ (h : Int) := by omega
        have bh : (h : Int) < (d.size : Int) := by omega
        have lx := fun n os => S1.out.1.ld R HS.out Try.prog m (by omega) n os
        have ly := fun n os => S1.out.1.ld R HS.out Try.prog h (by omega) n os
        have hcg := fun n os => S1.out.1.cmp HC.out rfl d[m]! d[h]! n os
        have SG := fun n os => S1.out.1.grown n os
        have HSG := Lib.hid SG
        clear SG
        generalize hvx : d[m]! = vx at lx hcg hlv hlv0 hlv1
        generalize hvy : d[h]! = vy at ly hcg hlv hlv0 hlv1
        have HV := Lib.hid (And.intro hvx hvy)
        clear hvx hvy
        go_wp2_with fail
        go_quiet_grown (first | (go_at_fn 84; refine Calls.grown_of (hcg _ _)))
        have S2 : Aside (SWK enc k w0 blk off d (grow (wr.drewN nq) osq)) := HSG.out nq osq
        clear lx ly hcg HSG
        generalize grow (wr.drewN nq) osq = w2 at S2 ⊢
        go_wp2
        go_roundg (h - i)
        case measure => omega
        case rel => exact ⟨i, h, rfl, by first | rfl | go_num, h1, by omega, by omega, Nat.le_refl _, ⟨S2.out, S1.out.2.1, fun x x1 x2 => by
            have hL := HLV.out
            rw [HT.out.c.lt (by omega) (by omega) (Nat.le_refl _) (by omega)] at hL
            exact lt_mono hL (swo_ltL.irrefl _) (srt_le HT.out.l (by omega) x1 x2)⟩⟩
      · have HLV := Lib.hid (show ltT d[m]! d[h]! = false by cases h : ltT d[m]! d[h]!; rfl; exact absurd (cfP_neg.2 h) hlv)
        have hlv0 : 0 ≤ cfP d[m]! d[h]! := by omega
        have hlv1 : (!decide (cfP d[m]! d[h]! < 0)) = true := by rw [decide_eq_false hlv]; rfl
        have em : ((m : Int)).toNat = m := by omega
        have pm : (0 : Int) ≤ (m : Int) := by omega
        have bm : (m : Int) < (d.size : Int) := by omega
        have eh : ((h : Int)).toNat = h := by omega
        have ph : (0 : Int) ≤ (h : Int) := by omega
        have bh : (h : Int) < (d.size : Int) := by omega
        have lx := fun n os => S1.out.1.ld R HS.out Try.prog m (by omega) n os
        have ly := fun n os => S1.out.1.ld R HS.out Try.prog h (by omega) n os
        have hcg := fun n os => S1.out.1.cmp HC.out rfl d[m]! d[h]! n os
        have SG := fun n os => S1.out.1.grown n os
        have HSG := Lib.hid SG
        clear SG
        generalize hvx : d[m]! = vx at lx hcg hlv hlv0 hlv1
        generalize hvy : d[h]! = vy at ly hcg hlv hlv0 hlv1
        have HV := Lib.hid (And.intro hvx hvy)
        clear hvx hvy
        go_wp2_with fail
        go_quiet_grown (first | (go_at_fn 84; refine Calls.grown_of (hcg _ _)))
        have S2 : Aside (SWK enc k w0 blk off d (grow (wr.drewN nq) osq)) := HSG.out nq osq
        clear lx ly hcg HSG
        generalize grow (wr.drewN nq) osq = w2 at S2 ⊢
        go_wp2
        go_roundg (j - (h + 1))
        case measure => omega
        case rel => exact ⟨h + 1, j, by go_num, rfl, by omega, by omega, h3, Nat.le_refl _, ⟨S2.out, fun x x1 x2 => by
            have hL := HLV.out
            rw [HT.out.c.lt (by omega) (by omega) (Nat.le_refl _) (by omega)] at hL
            exact swo_ltL.ntrans _ _ _ hL (srt_le HT.out.l x1 (by omega) (by omega)), S1.out.2.2⟩⟩
    · have hlt' : ¬ (i : Int) < (j : Int) := by omega
      obtain rfl : i = j := by omega
      go_wp2
      have S3 : Aside (Rot m m (m + 1) d d ∧ PermIn a b d d ∧ SWK enc k w0 blk off d wr) := ⟨Rot.none d (.inl rfl) (Nat.le_refl _) (by omega), permIn_refl _ _ _, S1.out.1⟩
      have HL := Lib.hid S1.out.2
      clear S1
      go_loopg [17] (b - a) (fun kx s17 wr => ∃ (t : Nat) (dk : Array PP), s17 = .int .i64 t ∧ i ≤ t ∧ t ≤ m ∧ t - i ≤ kx ∧ Aside (Rot t m (m + 1) d dk ∧ PermIn a b d dk ∧ SWK enc k w0 blk off dk wr))
      case atStart => exact ⟨m, d, rfl, by omega, Nat.le_refl _, by omega, S3⟩
      case round =>
        clear S3
        rename_i wq
        rename World => wr
        obtain ⟨t, dk, rfl, t1, t2, t3, S1⟩ := hrel
        have hds : dk.size = d.size := S1.out.1.1
        by_cases hlt : i < t
        · obtain ⟨tp, rfl⟩ : ∃ tp, t = tp + 1 := ⟨t - 1, by omega⟩
          have hlt' : (i : Int) < (tp : Int) + 1 := by omega
          have ex1 : ((tp : Int) + 1).toNat = tp + 1 := by omega
          have px1 : (0 : Int) ≤ (tp : Int) + 1 := by omega
          have bx1 : (tp : Int) + 1 < (d.size : Int) := by omega
          have rx1 : IntKind.i64.wrap ((tp : Int) + 1) = (tp : Int) + 1 := by rw [IntKind.wrap_i64]; omega
          have ey1 : ((tp : Int)).toNat = tp := by omega
          have py1 : (0 : Int) ≤ (tp : Int) := by omega
          have by1 : (tp : Int) < (d.size : Int) := by omega
          have ry1 : IntKind.i64.wrap ((tp : Int)) = (tp : Int) := by rw [IntKind.wrap_i64]; omega
          have S2 : Aside (SWK enc k w0 blk off (swp dk (tp + 1) (tp)) ((wr.drew.setCells blk (off + (tp + 1) * k) (enc dk[tp]!)).setCells blk (off + (tp) * k) (enc dk[tp + 1]!))) := S1.out.2.2.swapped R (tp + 1) (tp) (by omega) (by omega)
          have la := S1.out.2.2.ld1 R (hds.trans HS.out) Try.prog (tp + 1) (by omega)
          have lb := S1.out.2.2.ld1 R (hds.trans HS.out) Try.prog (tp) (by omega)
          have sa := S1.out.2.2.st1 R (hds.trans HS.out) Try.prog (tp + 1) (by omega) dk[tp]!
          have sb := S1.out.2.2.st2 R (hds.trans HS.out) Try.prog (tp + 1) (tp) (by omega) (by omega) dk[tp]! dk[tp + 1]!
          have na : (enc dk[tp + 1]!).length = k := R.hk _
          have nb : (enc dk[tp]!).length = k := R.hk _
          generalize enc dk[tp + 1]! = cI at S2 la sb na
          generalize enc dk[tp]! = cJ at S2 lb sa sb nb
          have S4 : Aside (Rot (tp + 1) m (m + 1) d dk ∧ PermIn a b d dk) := ⟨S1.out.1, S1.out.2.1⟩
          have HDS : Aside (dk.size = d.size) := hds
          clear S1 hds
          go_wp2_with fail
          go_big_region_o
          clear la lb sa sb
          generalize (wr.drew.setCells blk (off + (tp + 1) * k) cJ).setCells blk (off + (tp) * k) cI = w2 at S2 ⊢
          go_wp2
          go_roundg (tp - i)
          case measure => omega
          case rel =>
            have hds := HDS.out
            exact ⟨tp, swp dk (tp + 1) tp, by first | rfl | go_num | (congr 1; omega), by omega, by omega, by omega, ⟨Rot.down S4.out.1 (by omega) (by omega), permIn_trans _ _ _ _ _ S4.out.2 (swp_permIn _ _ _ _ _ (by omega) (by omega) (by omega) (by omega) (by omega)), S2.out⟩⟩
        · have hlt' : ¬ (i : Int) < (t : Int) := by omega
          obtain rfl : i = t := by omega
          go_wp2
          go_end0
          obtain ⟨q1, q2, q3⟩ := S1.out
          have hl := HT.out.l
          have hc := HT.out.c
          have hB := HM.out
          refine ⟨rfl, dk, ⟨q2, ?_⟩, by rw [← HK.out]; exact q3⟩
          rw [hB] at hc ⊢
          exact right_in q1 hl hc (by omega) (by omega) (by omega) (fun h x1 x2 => HL.out.1 h x1 x2) (fun h x1 x2 => HL.out.2 h x1 x2)


end Go.Proofs.Ytcanhkngikeeiaa
