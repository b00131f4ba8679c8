/- The specification's text of a grammar: spec.GramWrite (written by tools/gen_w8.py). -/
import Derived.Test.YtadfjdgjlgpncaaGreatDoorW7
namespace Go.Proofs.YtadfjdgjlgpncaaGreatDoor
open Go.RowKit
set_option linter.unusedVariables false

def ruleT (r : Ru) : List UInt8 := bl r.name ++ ([32, 61, 32] ++ (txt r.p ++ [59, 10]))
def gramT (rs : List Ru) : List UInt8 := rs.flatMap ruleT
theorem gramT_take (rs : List Ru) (j : Nat) (h : j < rs.length) : gramT (rs.take (j + 1)) = gramT (rs.take j) ++ ruleT rs[j] := by
  unfold gramT; rw [List.take_succ_eq_append_getElem h, List.flatMap_append]; simp
theorem GramP.names {rs : List Ru} (h : GramP rs) : NamesP rs := fun x hx => by
  obtain ⟨u, hu, rfl⟩ := List.getElem_of_mem hx
  exact (h.2.2.1 u hu).1.2.1
theorem gramT_len {rs : List Ru} (h : GramP rs) : ∀ j, j ≤ rs.length → (gramT (rs.take j)).length ≤ 13 * j + 1000 * nodesL ((parts rs).take j)
  | 0, _ => by simp [gramT]
  | j + 1, hj => by
    have h1 := gramT_len h j (by omega)
    have h2 := h.2.2.1 j (by omega)
    have h3 := txt_len h.names _ rs[j].p (Nat.le_refl _) h2.2.2.2
    have h4 := h2.1.2.1
    rw [bl_size] at h4
    rw [gramT_take rs j (by omega), parts_take (by omega)]
    simp only [List.length_append, ruleT, List.length_cons, List.length_nil]
    omega
theorem gramT_small {rs : List Ru} (h : GramP rs) (j : Nat) (hj : j ≤ rs.length) : (gramT (rs.take j)).length ≤ 170000 := by
  have h1 := gramT_len h j hj
  have h2 := nodesL_le (parts rs) j
  have := h.2.2.2
  have := h.2.1
  omega

/-- What GramWrite answers. -/
def GWPost (rs : List Ru) (w : World) (e : Ending) (w' : World) : Prop := ∃ s : ByteArray, e = .returned (.string s) ∧ ((GramP rs ∧ (gramT rs).length ≤ 4000) → bl s = gramT rs) ∧ (¬ (GramP rs ∧ (gramT rs).length ≤ 4000) → bl s = []) ∧ Below w.heap.size w w'

set_option maxRecDepth 100000 in
set_option maxHeartbeats 4000000 in
theorem specWrite_any (rs : List Ru) (a : Option Addr) (c B1 : Nat) (w : World) (hr : Rus w B1 a rs) (hm : rs.length ≤ 1048576) (hl : LimR 1048576 rs) :
    Calls Tryz.prog 11 #[.agg #[.slice a rs.length c]] w (GWPost rs w) := by
  have HBX := Lib.hid (below_box (w := w) (.cells #[.slice a rs.length c] 25))
  have HR := Lib.hid (hr.keep HBX.out)
  have HCO := Lib.hid (specGramOk_any rs a c B1 (w.alloc (.cells #[.slice a rs.length c] 25)) (hr.keep HBX.out) hm hl)
  have OGm : Hid (Own (w.alloc (.cells #[.slice a rs.length c] 25)) w.heap.size 25 [.slice a rs.length c]) := Own.new w 25 #[.slice a rs.length c]
  clear hr hl
  go_enter Tryz.func11, Tryz.ntmps11
  go_wp2_with fail
  refine HCO.out.mono ?_
  generalize w.alloc (.cells #[.slice a rs.length c] 25) = W0 at *
  rintro e w1 ⟨q, rfl, hq, hb1⟩
  have HQ := Lib.hid hq
  have g1 : w1.cell? ⟨w.heap.size, 0, none⟩ = some (.slice a rs.length c) := by rw [(OGm.out.keep hb1).cell]; rfl
  have gl1 := cell_lt g1
  simp only at gl1
  have HG1 := Lib.hid g1
  have HB1 := Lib.hid (HBX.out.trans (hb1.mono HBX.out.size))
  have HR1 := Lib.hid (HR.out.keep hb1)
  clear hq hb1 HCO
  cases q
  · have HN : Hid (¬ GramP rs) := fun h => by have := HQ.out.2 h; cases this
    go_wp2
    go_ret
    exact ⟨_, rfl, fun h => absurd h.1 HN.out, fun _ => rfl, HB1.out⟩
  · have HGP : Hid (GramP rs) := by first | exact HQ.out.1 rfl | exact HQ.out.1 trivial
    have h24 : rs.length ≤ 24 := HGP.out.2.1
    go_wp2
    clear g1
    go_loopw [3, 4] (fun s i wr => ∃ (j : Nat) (x : ByteArray), j ≤ rs.length ∧ i = .int .i64 j ∧ s = .string x ∧ Hid (bl x = gramT (rs.take j)) ∧ x.size ≤ 170000 ∧ Below w1.heap.size w1 wr) (fun _ i _ => rs.length - (intOf i).toNat)
    case atStart => exact ⟨0, ⟨#[]⟩, Nat.zero_le _, rfl, rfl, by show _ = _; simp [bl, gramT], by show (0 : Nat) ≤ _; omega, Below.refl _ _⟩
    case round =>
      obtain ⟨j, x, hj, rfl, rfl, HXS, hxz, hb⟩ := hrel
      have g0 := cell_keep hb HG1.out
      have gl := cell_lt g0
      simp only at gl
      by_cases hlt : j < rs.length
      · have hlt' : (j : Int) < (rs.length : Int) := by omega
        have hrl : Rus wr B1 a rs := HR1.out.keep hb
        obtain ⟨b, off, rfl, hn⟩ := hrl.at_ hlt
        have n0 := hn.n
        have hp := hn.p
        have hru := HGP.out.2.2.1 j hlt
        have hpn := parts_mem hlt
        have h160 := HGP.out.2.2.2
        have HNX := Lib.hid (gramT_take rs j hlt)
        have HSM := Lib.hid (gramT_small HGP.out (j + 1) (by omega))
        generalize rs[j] = rj at *
        obtain ⟨nm, p⟩ := rj
        obtain ⟨pk, pt, plo, phi, pkids, pmn, pmx⟩ := p
        simp only at n0 hp hpn
        rw [nodes_mk] at hpn
        obtain ⟨hnm, _, hht, hok⟩ := hru
        simp only at hnm hht hok
        rw [ht_mk] at hht
        have hns := hnm.2.1
        obtain ⟨PA, PB, PK, pa, pb, pc, hc, hv⟩ := hp.open_
        obtain ⟨c0, c1, c2, c3, c4, c5, c6⟩ := hc
        have HC := Lib.hid (write_all 8 rs pk pt plo phi pkids pmn pmx PA PB PK pa pb pc B1 0 wr.drew HGP.out.names hht (hv.keep (Below.refl _ _).drew) hok (by omega) (by omega) (by omega))
        rw [wrap0] at HC
        have hns2 : nm.size ≤ 8 := hns
        have q1 : ¬ 9223372036854775807 < x.size + nm.size := by omega
        have q2 : ¬ 9223372036854775807 < x.size + nm.size + 3 := by omega
        clear hn hp hv hnm hok hns hrl
        have HNX2 : Hid (gramT (rs.take (j + 1)) = gramT (rs.take j) ++ (bl nm ++ ([32, 61, 32] ++ (txt (.mk pk pt plo phi pkids pmn pmx) ++ [59, 10])))) := HNX
        clear HNX
        have HZ : Hid (∀ s : ByteArray, bl s = txt (.mk pk pt plo phi pkids pmn pmx) → s.size ≤ 170000) := fun s hs => by
          have h1 := HSM.out
          rw [HNX2.out] at h1
          simp only [List.length_append, List.length_cons, List.length_nil] at h1
          rw [bl_size, hs]; omega
        go_wp2
        go_region_held3 (fun X => X.cell? ⟨w.heap.size, 0, none⟩ = some (.slice (some ⟨b, off, none⟩) rs.length c) ∧ X.cell? ⟨b, off + j * 8, none⟩ = some (.string nm) ∧ X.cell? ⟨b, off + j * 8 + 1, none⟩ = some (.int .i64 pk) ∧ X.cell? ⟨b, off + j * 8 + 1 + 1, none⟩ = some (.string pt) ∧ X.cell? ⟨b, off + j * 8 + 1 + 2, none⟩ = some (.slice PA plo.length pa) ∧ X.cell? ⟨b, off + j * 8 + 1 + 3, none⟩ = some (.slice PB phi.length pb) ∧ X.cell? ⟨b, off + j * 8 + 1 + 4, none⟩ = some (.slice PK pkids.length pc) ∧ X.cell? ⟨b, off + j * 8 + 1 + 5, none⟩ = some (.int .i64 pmn) ∧ X.cell? ⟨b, off + j * 8 + 1 + 6, none⟩ = some (.int .i64 pmx))
          (first | exact ⟨cell_keep hb2 g0, cell_keep hb2 n0, cell_keep hb2 c0, cell_keep hb2 c1, cell_keep hb2 c2, cell_keep hb2 c3, cell_keep hb2 c4, cell_keep hb2 c5, cell_keep hb2 c6⟩ | exact ⟨g0, n0, c0, c1, c2, c3, c4, c5, c6⟩)
          (first | (go_at_call 29; refine HC.out.mono ?_; rintro e w2 ⟨s, rfl, hs, hb2⟩; have z1 := HZ.out s hs; have HS := Lib.hid hs; clear hs; have q3 : ¬ 9223372036854775807 < x.size + nm.size + 3 + s.size := (by omega); have q4 : ¬ 9223372036854775807 < x.size + nm.size + 3 + s.size + 2 := (by omega)))
        have hb' : Below w1.heap.size w1 w2 := hb.drew.trans (hb2.mono hb.drew.size)
        clear hb hb2 g0 n0 c0 c1 c2 c3 c4 c5 c6 HC q1 q2 q3 q4
        go_wp2
        go_roundw
        case rel =>
          have e1 : bl (x ++ nm ++ (⟨#[32, 61, 32]⟩ : ByteArray) ++ s ++ (⟨#[59, 10]⟩ : ByteArray)) = gramT (rs.take (j + 1)) := by
            rw [bl_append, bl_append, bl_append, bl_append, HXS.out, HS.out, HNX2.out]
            simp [bl, List.append_assoc]
          refine ⟨j + 1, x ++ nm ++ (⟨#[32, 61, 32]⟩ : ByteArray) ++ s ++ (⟨#[59, 10]⟩ : ByteArray), by omega, by go_num, rfl, e1, ?_, hb'⟩
          have := HSM.out
          rw [bl_size, e1]; omega
        case measure => simp [intOf]; omega
      · have hlt' : ¬ (j : Int) < (rs.length : Int) := by omega
        obtain rfl : j = rs.length := by omega
        rw [List.take_length] at HXS
        have HBB := Lib.hid (HB1.out.trans (hb.mono HB1.out.size))
        have hxl : x.size = (gramT rs).length := by rw [bl_size, HXS.out]
        have HXL := Lib.hid hxl
        clear hxl
        by_cases h4 : 4000 < x.size
        · have h4' : (4000 : Int) < (x.size : Int) := by omega
          go_wp2
          go_ret
          exact ⟨_, rfl, fun h => absurd h.2 (by have := HXL.out; omega), fun _ => rfl, HBB.out⟩
        · have h4' : ¬ (4000 : Int) < (x.size : Int) := by omega
          go_wp2
          go_ret
          exact ⟨_, rfl, fun _ => HXS.out, fun h => absurd ⟨HGP.out, by have := HXL.out; omega⟩ h, HBB.out⟩

end Go.Proofs.YtadfjdgjlgpncaaGreatDoor
