/- impl.GramWrite (written by tools/gen_w14.py). -/
import Derived.Test.YtadfjdgjlgpncaaGreatDoorW13
import Derived.Test.YtadfjdgjlgpncaaGreatDoorW8
import Derived.Test.YtadfjdgjlgpncaaGreatDoorP19
import Derived.Shelf.Strings.BuilderK
namespace Go.Proofs.YtadfjdgjlgpncaaGreatDoor
open Go.RowKit
set_option linter.unusedVariables false

/-- A builder that has some bytes; what else lies is kept when it is written. -/
def BUF (B b : Nat) (l : List UInt8) (w : World) : Prop := Lib.IsBuilderF 63 5 B b (Lib.byteCells l) w
theorem BUF.write (B b : Nat) (l : List UInt8) (s : ByteArray) (w : World) (h : BUF B b l w) (hlen : l.length + s.size ≤ 10000000) (hBw : B ≤ w.heap.size) :
    Calls Tryz.prog 35 #[.pointer (some ⟨b, 0, none⟩), .string s] w fun e w' => e = .returned (.tuple #[.int .i64 s.size, .nilIface]) ∧ BUF B b (l ++ bl s) w' ∧ Below B w w' ∧ Lib.OthersKept 5 (some b) w w' :=
  (Any.Builder_WriteString_k bwrLays joinExtra B b (Lib.byteCells l) s w h (by rw [Lib.byteCells_length]; omega) hBw).mono fun e w' ⟨h1, h2, h3, h4⟩ => ⟨h1, .inr (by rw [Lib.byteCells_append]; exact h2), h3, h4⟩
theorem BUF.string (B b : Nat) (l : List UInt8) (w : World) (h : BUF B b l w) (hBw : B ≤ w.heap.size) :
    Calls Tryz.prog 38 #[.pointer (some ⟨b, 0, none⟩)] w fun e w' => e = .returned (.string ⟨l.toArray⟩) ∧ Below B w w' := (Any.Builder_String_any_f bstrLays bstrExtra B b l w h hBw).mono fun _ _ ⟨h1, _, h3⟩ => ⟨h1, h3⟩
theorem BUF.len (B b : Nat) (l : List UInt8) (w : World) (h : BUF B b l w) :
    Calls Tryz.prog 37 #[.pointer (some ⟨b, 0, none⟩)] w fun e w' => e = .returned (.int .i64 l.length) ∧ w = w' := by
  have := Any.Builder_Len_f blenLays B b (Lib.byteCells l) w h
  rw [Lib.byteCells_length] at this
  exact this.mono fun _ _ ⟨h1, h2⟩ => ⟨h1, h2.symm⟩
theorem BUF.new (w : World) : BUF w.heap.size w.heap.size [] (w.alloc (.cells #[.pointer none, .slice none 0 0] 63)) := Lib.IsBuilderF.of (BU.new w)
theorem BUF.keep {B b : Nat} {l : List UInt8} {w w' : World} (h : BUF B b l w) (hb : Below w.heap.size w w') : BUF B b l w' := by
  rcases h with h | h
  · have hlt := h.lt
    obtain ⟨hB, v, hv, hown, hne⟩ := h
    exact .inl ⟨hB, v, (hb.block b hlt).trans hv, hown.kept (row := none) ⟨hb.os, hb.tape, hb.output, hb.size, fun k hk _ => hb.block k hk⟩ (Classical.em _), hne⟩
  · have hlt := h.lt
    obtain ⟨hB, v, hv, hown, hne⟩ := h
    exact .inr ⟨hB, v, (hb.block b hlt).trans hv, hown.kept (row := none) ⟨hb.os, hb.tape, hb.output, hb.size, fun k hk _ => hb.block k hk⟩ (Classical.em _), hne⟩
theorem BUF.lt {B b : Nat} {l : List UInt8} {w : World} (h : BUF B b l w) : b < w.heap.size := by
  rcases h with h | h <;> exact h.lt

set_option maxRecDepth 100000 in
set_option maxHeartbeats 4000000 in
theorem implWrite_any (rs : List Ru) (a : Option Addr) (c B1 : Nat) (w : World) (hr : Rus w B1 a rs) (hm : rs.length ≤ 1048576) (hl : LimR 1048576 rs) :
    Calls Tryz.prog 13 #[.agg #[.slice a rs.length c]] w (GWPost rs w) := by
  have HBX := Lib.hid (below_box (w := w) (.cells #[.slice a rs.length c] 25))
  have HR := Lib.hid (hr.keep HBX.out)
  have HCO := Lib.hid (implGramOk_any rs a c B1 (w.alloc (.cells #[.slice a rs.length c] 25)) (hr.keep HBX.out) hm hl)
  have OGm : Hid (Own (w.alloc (.cells #[.slice a rs.length c] 25)) w.heap.size 25 [.slice a rs.length c]) := Own.new w 25 #[.slice a rs.length c]
  clear hr hl
  go_enter Tryz.func13, Tryz.ntmps13
  go_wp2_with fail
  refine HCO.out.mono ?_
  generalize w.alloc (.cells #[.slice a rs.length c] 25) = W0 at *
  rintro e w1 ⟨q, rfl, hq, hb1⟩
  have HQ := Lib.hid hq
  have g1 : w1.cell? ⟨w.heap.size, 0, none⟩ = some (.slice a rs.length c) := by rw [(OGm.out.keep hb1).cell]; rfl
  have gl1 := cell_lt g1
  simp only at gl1
  have HB1 := Lib.hid (HBX.out.trans (hb1.mono HBX.out.size))
  have HR1 := Lib.hid (HR.out.keep hb1)
  clear hq hb1 HCO
  cases q
  · have HN : Hid (¬ GramP rs) := fun h => by have := HQ.out.2 h; cases this
    go_wp2
    go_ret
    exact ⟨_, rfl, fun h => absurd h.1 HN.out, fun _ => rfl, HB1.out⟩
  · have HGP : Hid (GramP rs) := by first | exact HQ.out.1 rfl | exact HQ.out.1 trivial
    have h24 : rs.length ≤ 24 := HGP.out.2.1
    have HNB := Lib.hid (BUF.new w1)
    have HBN : Hid (Below w1.heap.size w1 (w1.alloc (.cells #[.pointer none, .slice none 0 0] 63))) := below_box _
    go_wp2
    clear g1
    generalize w1.alloc (.cells #[.pointer none, .slice none 0 0] 63) = W2 at *
    go_loopw [12] (fun i wr => ∃ (j : Nat) (l : List UInt8), j ≤ rs.length ∧ i = .int .i64 j ∧ Hid (l = gramT (rs.take j)) ∧ l.length ≤ 170000 ∧ Hid (BUF w1.heap.size w1.heap.size l wr) ∧ Below w1.heap.size w1 wr) (fun i _ => rs.length - (intOf i).toNat)
    case atStart => exact ⟨0, [], Nat.zero_le _, rfl, by show _ = _; simp [gramT], by simp, HNB, HBN.out⟩
    case round =>
      obtain ⟨j, l, hj, rfl, HLS, hlz, HBU, hb⟩ := hrel
      have hlb : w1.heap.size < wr.heap.size := HBU.out.lt
      by_cases hlt : j < rs.length
      · have hlt' : (j : Int) < (rs.length : Int) := by omega
        have hrl : Rus wr B1 a rs := HR1.out.keep hb
        obtain ⟨b, off, rfl, hn⟩ := hrl.at_ hlt
        have n0 := hn.n
        have hp := hn.p
        have hru := HGP.out.2.2.1 j hlt
        have hpn := parts_mem hlt
        have h160 := HGP.out.2.2.2
        have HNX := Lib.hid (gramT_take rs j hlt)
        have HSM := Lib.hid (gramT_small HGP.out (j + 1) (by omega))
        generalize rs[j] = rj at *
        obtain ⟨nm, p⟩ := rj
        obtain ⟨pk, pt, plo, phi, pkids, pmn, pmx⟩ := p
        simp only at n0 hp hpn
        rw [nodes_mk] at hpn
        obtain ⟨hnm, _, hht, hok⟩ := hru
        simp only at hnm hht hok
        rw [ht_mk] at hht
        have hns := hnm.2.1
        obtain ⟨PA, PB, PK, pa, pb, pc, hc, hv⟩ := hp.open_
        obtain ⟨c0, c1, c2, c3, c4, c5, c6⟩ := hc
        have hbx : Below wr.heap.size wr (wr.alloc (.cells #[.string nm, .int .i64 pk, .string pt, .slice PA plo.length pa, .slice PB phi.length pb, .slice PK pkids.length pc, .int .i64 pmn, .int .i64 pmx] 40)) := below_box _
        have OV : Hid (Own (wr.alloc (.cells #[.string nm, .int .i64 pk, .string pt, .slice PA plo.length pa, .slice PB phi.length pb, .slice PK pkids.length pc, .int .i64 pmn, .int .i64 pmx] 40)) wr.heap.size 40 [.string nm, .int .i64 pk, .string pt, .slice PA plo.length pa, .slice PB phi.length pb, .slice PK pkids.length pc, .int .i64 pmn, .int .i64 pmx]) := Own.new wr 40 #[.string nm, .int .i64 pk, .string pt, .slice PA plo.length pa, .slice PB phi.length pb, .slice PK pkids.length pc, .int .i64 pmn, .int .i64 pmx]
        have HC := Lib.hid (paT_all 8 rs pk pt plo phi pkids pmn pmx PA PB PK pa pb pc B1 (wr.alloc (.cells #[.string nm, .int .i64 pk, .string pt, .slice PA plo.length pa, .slice PB phi.length pb, .slice PK pkids.length pc, .int .i64 pmn, .int .i64 pmx] 40)).drew HGP.out.names hht ((hv.keep hbx).keep (Below.refl _ _).drew) hok (by omega))
        have HBV := Lib.hid (HBU.out.keep hbx)
        have hbv : Below w1.heap.size w1 (wr.alloc (.cells #[.string nm, .int .i64 pk, .string pt, .slice PA plo.length pa, .slice PB phi.length pb, .slice PK pkids.length pc, .int .i64 pmn, .int .i64 pmx] 40)) := hb.trans (hbx.mono hb.size)
        have hns2 : nm.size ≤ 8 := hns
        have q1 : ¬ 9223372036854775807 < nm.size + 3 := by omega
        have HNX2 : Hid (gramT (rs.take (j + 1)) = gramT (rs.take j) ++ (bl nm ++ ([32, 61, 32] ++ (txt (.mk pk pt plo phi pkids pmn pmx) ++ [59, 10])))) := HNX
        have HZ : Hid (∀ s : ByteArray, bl s = txt (.mk pk pt plo phi pkids pmn pmx) → s.size ≤ 170000) := fun s hs => by
          have h1 := HSM.out
          rw [HNX2.out] at h1
          simp only [List.length_append, List.length_cons, List.length_nil] at h1
          rw [bl_size, hs]; omega
        have HX : Hid (∀ s : ByteArray, bl s = txt (.mk pk pt plo phi pkids pmn pmx) → l ++ bl (nm ++ (⟨#[32, 61, 32]⟩ : ByteArray) ++ s ++ (⟨#[59, 10]⟩ : ByteArray)) = gramT (rs.take (j + 1))) := fun s hs => by
          rw [bl_append, bl_append, bl_append, hs, HNX2.out, HLS.out]
          simp [bl, List.append_assoc]
        have HZ2 : Hid (∀ s : ByteArray, bl s = txt (.mk pk pt plo phi pkids pmn pmx) → l.length + (nm ++ (⟨#[32, 61, 32]⟩ : ByteArray) ++ s ++ (⟨#[59, 10]⟩ : ByteArray)).size ≤ 10000000) := fun s hs => by
          have h1 := HSM.out
          rw [← HX.out s hs, List.length_append] at h1
          rw [bl_size]; omega
        clear HNX hn hp hv hnm hok hns hrl hbx HBU HLS HNX2
        generalize txt (.mk pk pt plo phi pkids pmn pmx) = TX at *
        have HBW := Lib.hid hbv
        clear hb hbv
        go_wp2
        clear n0 c0 c1 c2 c3 c4 c5 c6
        generalize (wr.alloc (.cells #[.string nm, .int .i64 pk, .string pt, .slice PA plo.length pa, .slice PB phi.length pb, .slice PK pkids.length pc, .int .i64 pmn, .int .i64 pmx] 40)) = V at *
        have zv := OV.out.lt
        have d0 : V.cell? ⟨wr.heap.size, 0, none⟩ = some (.string nm) := by rw [OV.out.cell]; rfl
        have d1 : V.cell? ⟨wr.heap.size, 1, none⟩ = some (.int .i64 pk) := by rw [OV.out.cell]; rfl
        have d2 : V.cell? ⟨wr.heap.size, 2, none⟩ = some (.string pt) := by rw [OV.out.cell]; rfl
        have d3 : V.cell? ⟨wr.heap.size, 3, none⟩ = some (.slice PA plo.length pa) := by rw [OV.out.cell]; rfl
        have d4 : V.cell? ⟨wr.heap.size, 4, none⟩ = some (.slice PB phi.length pb) := by rw [OV.out.cell]; rfl
        have d5 : V.cell? ⟨wr.heap.size, 5, none⟩ = some (.slice PK pkids.length pc) := by rw [OV.out.cell]; rfl
        have d6 : V.cell? ⟨wr.heap.size, 6, none⟩ = some (.int .i64 pmn) := by rw [OV.out.cell]; rfl
        have d7 : V.cell? ⟨wr.heap.size, 7, none⟩ = some (.int .i64 pmx) := by rw [OV.out.cell]; rfl
        go_region_held3 (fun X => X.cell? ⟨wr.heap.size, 0, none⟩ = some (.string nm) ∧ X.cell? ⟨wr.heap.size, 1, none⟩ = some (.int .i64 pk) ∧ X.cell? ⟨wr.heap.size, 2, none⟩ = some (.string pt) ∧ X.cell? ⟨wr.heap.size, 3, none⟩ = some (.slice PA plo.length pa) ∧ X.cell? ⟨wr.heap.size, 4, none⟩ = some (.slice PB phi.length pb) ∧ X.cell? ⟨wr.heap.size, 5, none⟩ = some (.slice PK pkids.length pc) ∧ X.cell? ⟨wr.heap.size, 6, none⟩ = some (.int .i64 pmn) ∧ X.cell? ⟨wr.heap.size, 7, none⟩ = some (.int .i64 pmx))
          (first | exact ⟨by rw [OV3.cell]; rfl, by rw [OV3.cell]; rfl, by rw [OV3.cell]; rfl, by rw [OV3.cell]; rfl, by rw [OV3.cell]; rfl, by rw [OV3.cell]; rfl, by rw [OV3.cell]; rfl, by rw [OV3.cell]; rfl⟩ | exact ⟨cell_keep hb2 d0, cell_keep hb2 d1, cell_keep hb2 d2, cell_keep hb2 d3, cell_keep hb2 d4, cell_keep hb2 d5, cell_keep hb2 d6, cell_keep hb2 d7⟩ | exact ⟨d0, d1, d2, d3, d4, d5, d6, d7⟩)
          (first | (go_at_call 35; refine (BUF.write w1.heap.size w1.heap.size l (nm ++ (⟨#[32, 61, 32]⟩ : ByteArray) ++ s ++ (⟨#[59, 10]⟩ : ByteArray)) w2 ((HBV.out.keep (Below.refl _ _).drew).keep hb2) (HZ2.out s HS.out) (Nat.le_trans HBW.out.drew.size hb2.size)).mono ?_; rintro e w3 ⟨rfl, hbu, hb3, hot⟩; have OV3 : Own w3 wr.heap.size 40 [.string nm, .int .i64 pk, .string pt, .slice PA plo.length pa, .slice PB phi.length pb, .slice PK pkids.length pc, .int .i64 pmn, .int .i64 pmx] := hot _ _ (OV.out.drew.keep hb2) (by intro h; injection h; omega) (by intro c fz h; injection h with _ h _; exact absurd h (by decide)))
                 | (go_at_call 36; refine HC.out.mono ?_; rintro e w2 ⟨s, rfl, hs, hb2⟩; have z1 := HZ.out s hs; have HS := Lib.hid hs; clear hs; have q3 : ¬ 9223372036854775807 < nm.size + 3 + s.size := (by omega); have q4 : ¬ 9223372036854775807 < nm.size + 3 + s.size + 2 := (by omega)))
        have HB' : Hid (Below w1.heap.size w1 w3) := (HBW.out.drew.trans (hb2.mono HBW.out.drew.size)).trans hb3
        have HBU3 := Lib.hid hbu
        clear hb2 hb3 hbu hot OV3 d0 d1 d2 d3 d4 d5 d6 d7 HC q1 q3 q4 HBV HBW OV
        go_wp2
        go_roundw
        case rel =>
          refine ⟨j + 1, l ++ bl (nm ++ (⟨#[32, 61, 32]⟩ : ByteArray) ++ s ++ (⟨#[59, 10]⟩ : ByteArray)), by omega, by go_num, HX.out s HS.out, ?_, HBU3, HB'.out⟩
          have := HSM.out
          rw [HX.out s HS.out]; omega
        case measure => simp [intOf]; omega
      · have hlt' : ¬ (j : Int) < (rs.length : Int) := by omega
        obtain rfl : j = rs.length := by omega
        rw [List.take_length] at HLS
        have HBB := Lib.hid (HB1.out.trans (hb.mono HB1.out.size))
        have HCL := Lib.hid (BUF.len w1.heap.size w1.heap.size l wr HBU.out)
        have HCS := Lib.hid (BUF.string w1.heap.size w1.heap.size l wr HBU.out (by omega))
        have hs1 : w.heap.size ≤ w1.heap.size := HB1.out.size
        clear hb HBU
        by_cases h4 : 4000 < l.length
        · have h4' : (4000 : Int) < (l.length : Int) := by omega
          go_wp2_with fail
          refine HCL.out.mono ?_
          rintro e w4 ⟨rfl, rfl⟩
          go_wp2
          go_ret
          exact ⟨_, rfl, fun h => absurd h.2 (by rw [← HLS.out]; omega), fun _ => rfl, HBB.out⟩
        · have h4' : ¬ (4000 : Int) < (l.length : Int) := by omega
          go_wp2_with fail
          refine HCL.out.mono ?_
          rintro e w4 ⟨rfl, rfl⟩
          go_wp2_with fail
          refine HCS.out.mono ?_
          rintro e w5 ⟨rfl, hb5⟩
          have HB5 := Lib.hid (HBB.out.trans (hb5.mono hs1))
          clear hb5
          go_wp2
          go_ret
          exact ⟨_, rfl, fun _ => by rw [bl_mk]; exact HLS.out, fun h => absurd ⟨HGP.out, by rw [← HLS.out]; omega⟩ h, HB5.out⟩

end Go.Proofs.YtadfjdgjlgpncaaGreatDoor
