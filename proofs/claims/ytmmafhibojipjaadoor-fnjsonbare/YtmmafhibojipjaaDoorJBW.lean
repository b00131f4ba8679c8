/- The walk of the law FnJsonBare. -/
import Derived.Test.YtmmafhibojipjaaDoorJB
namespace Go.Proofs.YtmmafhibojipjaaDoor
open Go.RowKit
set_option linter.unusedVariables false

set_option maxRecDepth 100000 in
set_option maxHeartbeats 4000000 in
theorem jsonBare_walk (C : Option Addr) (ccap : Nat) (zs : List Int) (w : World) (hrow : Row w C (byts zs)) (hz : zs.length ≤ maxLen) (hcap : zs.length ≤ ccap) (hzs : ∀ z ∈ zs, 0 ≤ z ∧ z ≤ 255) :
    Calls Tryd.prog 5 #[.slice C zs.length ccap] w (LawTrue w) := by
  have HR := Lib.hid hrow
  have HZ := Lib.hid hzs
  clear hrow hzs
  unfold maxLen at hz
  by_cases hbig : 1048576 < zs.length
  · have hbig' : (1048576 : Int) < (zs.length : Int) := by omega
    go_enter Tryd.func5, Tryd.ntmps5
    go_wp2
    go_ret
    exact ⟨rfl, Below.refl _ _⟩
  have hbig' : ¬ (1048576 : Int) < (zs.length : Int) := by omega
  go_enter Tryd.func5, Tryd.ntmps5
  go_wp2_with fail
  refine (drawJsonWrite_any C ccap zs _ HR.out (by omega) hcap HZ.out).mono ?_
  rintro e w1 ⟨k, f, t, ns, kids, A, K, ca, kc, rfl, hv, hl, hb1⟩
  have HL := VJ.start hv hl hb1
  clear hv hl hb1
  obtain ⟨p0, p1, p2, p3, p4⟩ := HL.cells
  have pl := HL.o.lt
  have HLH := Lib.hid HL
  clear HL
  simp only [c5]
  simp only [c5] at HLH p0 p1 p2 p3 p4 pl
  go_wp2_with fail
  clear p0 p1 p2 p3 p4 pl
  generalize w1.alloc (.cells #[.int .i64 k, .bool f, .string t, .slice A ns.length ca, .slice K kids.length kc] 26) = wv at *
  refine (implWrite_any k f t ns kids A K ca kc 0 wv HLH.out.v HLH.out.l HLH.out.e).mono ?_
  rintro e w3 ⟨s, rfl, hs, hsn, hb⟩
  have HL3 := Lib.hid (HLH.out.keep hb)
  have HS := Lib.hid (And.intro hs hsn)
  clear hb hs hsn HLH
  obtain ⟨p0, p1, p2, p3, p4⟩ := HL3.out.cells
  have pl := HL3.out.o.lt
  go_wp2_with fail
  clear p0 p1 p2 p3 p4 pl
  refine (specWrite_any k f t ns kids A K ca kc 0 w3 HL3.out.v HL3.out.l).mono ?_
  rintro e w4 ⟨s2, rfl, hs2, hs2n, hb⟩
  have HL4 := Lib.hid (HL3.out.keep hb)
  have hss : s2 = s := by
    by_cases h : JsonP (.mk k f t ns kids)
    · exact bl_inj ((hs2 h).trans (HS.out.1 h).symm)
    · exact bl_inj ((hs2n h).trans (HS.out.2 h).symm)
  subst hss
  clear hb hs2 hs2n HL3
  have HQ : Hid (qrun false (bl s2) = some false) := by
    show _ = _
    by_cases hJ : JsonP (.mk k f t ns kids)
    · rw [HS.out.1 hJ]; exact qrun_js 5 _ hJ.1 hJ.2.1
    · rw [HS.out.2 hJ]; rfl
  have hs2 : s2.size ≤ 300 := by
    rw [bl_size]
    by_cases hJ : JsonP (.mk k f t ns kids)
    · rw [HS.out.1 hJ]; exact hJ.2.2.2
    · rw [HS.out.2 hJ]; simp
  have HB := Lib.hid HL4.out.b
  clear HS HL4
  go_wp2
  go_loop [5, 6] (fun q c => ∃ (i : Nat) (r : Bool), c = .int .i64 i ∧ q = .bool r ∧ i ≤ s2.size ∧ Hid (QAt (bl s2) i r)) (fun _ c => s2.size - (intOf c).toNat)
  case atStart => exact ⟨0, false, rfl, rfl, by omega, rfl⟩
  case round =>
    obtain ⟨i, q, rfl, rfl, hi, HA⟩ := hrel
    by_cases hlt : i < s2.size
    · have hlt2 : (i : Int) < (s2.size : Int) := by omega
      have hil : i < (bl s2).length := by rw [← bl_size]; exact hlt
      have HN := Lib.hid (QAt.next HQ.out HA.out hil)
      have hge : (bl s2)[i]'hil = s2[i] := bl_get s2 i hlt
      rw [hge] at HN
      have h34 : (34 : UInt8).toNat = 34 := rfl
      clear HA hge
      by_cases hb : s2[i] = 34
      · have c1 : ((s2[i].toNat : Int) == 34) = true := by rw [hb]; rfl
        have c2 : ¬ (s2[i].toNat : Int) ≤ 32 := by rw [hb]; decide
        have HA2 : Hid (QAt (bl s2) (i + 1) (!q)) := by show QAt _ _ _; have h := HN.out.2; simpa only [hb, if_true, if_false] using h
        clear HN hb
        cases q
        · go_wp2
          go_round
          case rel => exact ⟨i + 1, true, by go_num, rfl, by omega, HA2⟩
          case measure => simp [intOf]; omega
        · go_wp2
          go_round
          case rel => exact ⟨i + 1, false, by go_num, rfl, by omega, HA2⟩
          case measure => simp [intOf]; omega
      · have c1 : ((s2[i].toNat : Int) == 34) = false := by
          rw [beq_eq_false_iff_ne]; intro h; exact hb (UInt8.toNat_inj.1 (by omega))
        have HA2 : Hid (QAt (bl s2) (i + 1) q) := by show QAt _ _ _; have h := HN.out.2; simpa only [hb, if_true, if_false] using h
        have hno : ¬ (q = false ∧ s2[i].toNat ≤ 32) := by have h := HN.out.1; simpa only [hb, if_true, if_false] using h
        clear HN hb
        cases q
        · have c2 : ¬ (s2[i].toNat : Int) ≤ 32 := fun h => hno ⟨rfl, by omega⟩
          clear hno
          go_wp2
          go_round
          case rel => exact ⟨i + 1, false, by go_num, rfl, by omega, HA2⟩
          case measure => simp [intOf]; omega
        · clear hno
          go_wp2
          go_round
          case rel => exact ⟨i + 1, true, by go_num, rfl, by omega, HA2⟩
          case measure => simp [intOf]; omega
    · have hlt2 : ¬ (i : Int) < (s2.size : Int) := by omega
      obtain rfl : q = false := HA.out.done HQ.out (by rw [← bl_size]; omega)
      go_wp2
      go_ret
      exact ⟨rfl, HB.out⟩
end Go.Proofs.YtmmafhibojipjaaDoor
