/- impl.bytesText, impl.rangesText (written by tools/gen_w9.py). -/
import Derived.Test.YtadfjdgjlgpncaaGreatDoorW6
namespace Go.Proofs.YtadfjdgjlgpncaaGreatDoor
open Go.RowKit
set_option linter.unusedVariables false

theorem own_keep {w w' : World} {base : Nat} {e : TypeId} {size : Nat} {v : Value} {n : Nat} {xs : List Value} (h : w.ownsRow base e size v n xs) (hb : Below w.heap.size w w') : w'.ownsRow base e size v n xs := by
  refine ⟨h.1, ?_⟩
  rcases h.2 with hn | ⟨g, cap, cur, rfl, hb', hgg, rest⟩
  · exact .inl hn
  · exact .inr ⟨g, cap, cur, rfl, hb', (hb.block g (Array.getElem?_eq_some_iff.1 hgg).1).trans hgg, rest⟩
theorem BU.keep {B b : Nat} {l : List UInt8} {w w' : World} (h : BU B b l w) (hb : Below w.heap.size w w') : BU B b l w' := by
  rcases h with h | h
  · obtain ⟨h1, v, h2, h3, h4⟩ := h
    exact .inl ⟨h1, v, (hb.block b (Array.getElem?_eq_some_iff.1 h2).1).trans h2, own_keep h3 hb, h4⟩
  · obtain ⟨h1, v, h2, h3, h4⟩ := h
    exact .inr ⟨h1, v, (hb.block b (Array.getElem?_eq_some_iff.1 h2).1).trans h2, own_keep h3 hb, h4⟩
theorem BU.lt {B b : Nat} {l : List UInt8} {w : World} (h : BU B b l w) : b < w.heap.size := by
  rcases h with h | h <;> exact h.lt

set_option maxRecDepth 100000 in
set_option maxHeartbeats 4000000 in
theorem bytesText_any (t : ByteArray) (w : World) (hm : t.size ≤ 20) : Calls Tryz.prog 67 #[.string t] w (TextIs ((bl t).flatMap (escB qO)) w) := by
  have HN := Lib.hid (BU.new w)
  have HBX : Hid (Below w.heap.size w (w.alloc (.cells #[.pointer none, .slice none 0 0] 63))) := below_box _
  go_enter Tryz.func67, Tryz.ntmps67
  go_wp2
  generalize (w.alloc (.cells #[.pointer none, .slice none 0 0] 63)) = W0 at *
  go_loopw [7] (fun i wr => ∃ (j : Nat) (l : List UInt8), j ≤ t.size ∧ i = .int .i64 j ∧ Hid (l = ((bl t).take j).flatMap (escB qO)) ∧ Hid (BU w.heap.size w.heap.size l wr) ∧ l.length ≤ 3 * j ∧ Below w.heap.size w wr) (fun i _ => t.size - (intOf i).toNat)
  case atStart => exact ⟨0, [], Nat.zero_le _, rfl, by show _ = _; simp, HN, by simp, HBX.out⟩
  case round =>
    obtain ⟨j, l, hj, rfl, HLS, HBU, hlz, hb⟩ := hrel
    by_cases hlt : j < t.size
    · have hlt' : (j : Int) < (t.size : Int) := by omega
      have HNX := Lib.hid (flat_take (escB qO) (bl t) j (by rw [← bl_size]; exact hlt))
      rw [bl_get t j hlt] at HNX
      have HC := Lib.hid (byteText_any t[j] ⟨#[92, 34]⟩ qO wr rfl (by decide))
      go_wp2_with fail
      refine HC.out.mono ?_
      rintro e w2 ⟨s, rfl, hs, hb2⟩
      have hsz : s.size ≤ 3 := by rw [bl_size, hs]; exact (escB_len _ _).2
      have HS := Lib.hid hs
      have hb' : Below w.heap.size w w2 := hb.trans (hb2.mono hb.size)
      have HCW := Lib.hid (BU.write w.heap.size w.heap.size l s w2 (HBU.out.keep hb2) (by omega) hb'.size)
      clear hs hb hb2 HC
      go_wp2_with fail
      refine HCW.out.mono ?_
      rintro e w3 ⟨rfl, hbu, hb3⟩
      have hb4 : Below w.heap.size w w3 := hb'.trans hb3
      have HBU3 := Lib.hid hbu
      clear hb' hb3 hbu HCW
      go_wp2
      go_roundw
      case rel =>
        refine ⟨j + 1, l ++ bl s, by omega, by go_num, ?_, HBU3, ?_, hb4⟩
        · show _ = _
          rw [HLS.out, HS.out, HNX.out]
        · rw [List.length_append, ← bl_size]; omega
      case measure => simp [intOf]; omega
    · have hlt' : ¬ (j : Int) < (t.size : Int) := by omega
      have HT : Hid (l = (bl t).flatMap (escB qO)) := by
        show _ = _
        rw [HLS.out, List.take_of_length_le (by rw [← bl_size]; omega)]
      have HCS := Lib.hid (BU.string w.heap.size w.heap.size l wr HBU.out hb.size)
      clear HLS
      go_wp2_with fail
      refine HCS.out.mono ?_
      rintro e w3 ⟨rfl, hb3⟩
      have hb4 := Lib.hid (hb.trans hb3)
      clear hb hb3 HCS
      go_wp2
      go_ret
      exact ⟨_, rfl, by rw [bl_mk, HT.out], hb4.out⟩

set_option maxRecDepth 100000 in
set_option maxHeartbeats 4000000 in
theorem rangesText_any (lo hi : List Int) (A B : Option Addr) (ca cb : Nat) (w : World) (ha : Row w A (ints lo)) (hb0 : Row w B (ints hi)) (hcl : ClassP lo hi) :
    Calls Tryz.prog 68 #[.agg #[.slice A lo.length ca, .slice B hi.length cb]] w (TextIs (rangesT lo hi lo.length) w) := by
  have HBX : Hid (Below w.heap.size w ((w.alloc (.cells #[.slice A lo.length ca, .slice B hi.length cb] 103)).alloc (.cells #[.pointer none, .slice none 0 0] 63))) := (below_box _).alloc (by simp) _
  have HN : Hid (BU (w.heap.size + 1) (w.heap.size + 1) [] ((w.alloc (.cells #[.slice A lo.length ca, .slice B hi.length cb] 103)).alloc (.cells #[.pointer none, .slice none 0 0] 63))) := by
    have h := BU.new (w.alloc (.cells #[.slice A lo.length ca, .slice B hi.length cb] 103))
    rw [World.size_alloc] at h
    exact h
  have HA := Lib.hid ha
  have HB := Lib.hid hb0
  have HCL := Lib.hid hcl
  have hl128 := class_len hcl
  have hlh1 : lo.length ≤ hi.length := by have := hcl.2.1; omega
  have hlh2 : hi.length ≤ lo.length := by have := hcl.2.1; omega
  have OP : Hid (Own ((w.alloc (.cells #[.slice A lo.length ca, .slice B hi.length cb] 103)).alloc (.cells #[.pointer none, .slice none 0 0] 63)) w.heap.size 103 [.slice A lo.length ca, .slice B hi.length cb]) := (Own.new w 103 #[.slice A lo.length ca, .slice B hi.length cb]).alloc _
  clear ha hb0 hcl
  go_enter Tryz.func68, Tryz.ntmps68
  go_wp2
  generalize (w.alloc (.cells #[.slice A lo.length ca, .slice B hi.length cb] 103)).alloc (.cells #[.pointer none, .slice none 0 0] 63) = W0 at *
  have hsz0 : w.heap.size + 1 < W0.heap.size := HN.out.lt
  have OPS : Hid (∀ wr, Below (w.heap.size + 1) W0 wr → wr.cell? ⟨w.heap.size, 1, none⟩ = some (.slice B hi.length cb)) := fun wr h => by
    have := OP.out.below h (by omega)
    rw [this.cell]; rfl
  go_loopw [10] (fun i wr => ∃ (j : Nat) (l : List UInt8), j ≤ lo.length ∧ i = .int .i64 j ∧ Hid (l = rangesT lo hi j) ∧ Hid (BU (w.heap.size + 1) (w.heap.size + 1) l wr) ∧ l.length ≤ 7 * j ∧ Below (w.heap.size + 1) W0 wr) (fun i _ => lo.length - (intOf i).toNat)
  case atStart => exact ⟨0, [], Nat.zero_le _, rfl, by show _ = _; simp [rangesT], HN, by simp, Below.refl _ _⟩
  case round =>
    obtain ⟨j, l, hj, rfl, HLS, HBU, hlz, hb⟩ := hrel
    have k1 := OPS.out wr hb
    have kl := cell_lt k1
    simp only at kl
    have HBW : Hid (Below w.heap.size w wr) := HBX.out.trans (hb.mono (by omega))
    by_cases hlt : j < lo.length
    · have hlt' : (j : Int) < (lo.length : Int) := by omega
      have hlt2 : (j : Int) < (hi.length : Int) := by omega
      obtain ⟨b, off, rfl, hc⟩ := (HA.out.keep HBW.out).gi hlt
      obtain ⟨b', off', rfl, hc'⟩ := (HB.out.keep HBW.out).gi (show j < hi.length by omega)
      have HHI : Hid (∀ w3, Below w.heap.size w w3 → w3.cell? ⟨b', off' + j, none⟩ = some (.int .i64 (gi hi j))) := fun w3 h => by
        obtain ⟨b2, o2, e2, hc2⟩ := (HB.out.keep h).gi (show j < hi.length by omega)
        injection e2 with e2
        injection e2 with e3 e4
        subst e3 e4
        exact hc2
      obtain ⟨q1, q2, q3, q4, _⟩ := HCL.out.2.2 j hlt
      have HNX := Lib.hid (ranges_succ lo hi j)
      have HRT : Hid (rangeT lo hi j = escB cO (u8 (gi lo j)) ++ (if gi lo j < gi hi j then 45 :: escB cO (u8 (gi hi j)) else [])) := rfl
      have e1 := u8_int q1 q2
      have e2 := u8_int (show 0 ≤ gi hi j by omega) q4
      have HC1 := Lib.hid (byteText_any (u8 (gi lo j)) ⟨#[92, 45, 93, 94]⟩ cO wr rfl (by decide))
      have HC2 : Hid (∀ w2, Calls Tryz.prog 98 #[.int .u8 ((u8 (gi hi j)).toNat : Int), .string ⟨#[92, 45, 93, 94]⟩] w2 (TextIs (escB cO (u8 (gi hi j))) w2)) := fun w2 => byteText_any (u8 (gi hi j)) ⟨#[92, 45, 93, 94]⟩ cO w2 rfl (by decide)
      rw [e1] at HC1
      rw [e2] at HC2
      clear e1 e2
      generalize gi lo j = y at *
      generalize gi hi j = z at *
      have wy : IntKind.u8.wrap y = y := by rw [IntKind.wrap_u8]; omega
      have wz : IntKind.u8.wrap z = z := by rw [IntKind.wrap_u8]; omega
      go_wp2_with fail
      refine HC1.out.mono ?_
      rintro e w2 ⟨s, rfl, hs, hb2⟩
      have hsz : s.size ≤ 3 := by rw [bl_size, hs]; exact (escB_len _ _).2
      have HS := Lib.hid hs
      have hwl : w.heap.size + 1 < wr.heap.size := HBU.out.lt
      have hb' : Below (w.heap.size + 1) W0 w2 := hb.trans (hb2.mono (by omega))
      have HCW := Lib.hid (BU.write (w.heap.size + 1) (w.heap.size + 1) l s w2 (HBU.out.keep hb2) (by omega) (by have := hb2.size; omega))
      have HHC := Lib.hid (cell_keep hb2 hc')
      have hb2s := hb2.size
      clear hs hb hb2 HC1 k1 hc hc'
      go_wp2_with fail
      refine HCW.out.mono ?_
      rintro e w3 ⟨rfl, hbu, hb3⟩
      have hb4 : Below (w.heap.size + 1) W0 w3 := hb'.trans hb3
      have HBU3 := Lib.hid hbu
      have k1 := OPS.out w3 hb4
      have kl3 := cell_lt k1
      simp only at kl3
      have hbo : w3.cell? ⟨b', off' + j, none⟩ = some (.int .i64 z) := HHI.out w3 (HBX.out.trans (hb4.mono (by omega)))
      clear hb' hb3 hbu HCW
      by_cases hg : y < z
      · have hg' : (z != y) = true := by rw [bne_iff_ne]; omega
        have HNX2 : Hid (rangesT lo hi (j + 1) = rangesT lo hi j ++ (escB cO (u8 y) ++ 45 :: escB cO (u8 z))) := by show _ = _; rw [HNX.out, HRT.out, if_pos hg]
        clear HNX HRT
        go_wp2_with fail
        refine (HC2.out w3).mono ?_
        rintro e w4 ⟨s2, rfl, hs2, hb5⟩
        have hsz2 : s2.size ≤ 3 := by rw [bl_size, hs2]; exact (escB_len _ _).2
        have HS2 := Lib.hid hs2
        have hwl3 : w.heap.size + 1 < w3.heap.size := HBU3.out.lt
        have hb6 : Below (w.heap.size + 1) W0 w4 := hb4.trans (hb5.mono (by omega))
        have hz45 : ((⟨#[45]⟩ : ByteArray) ++ s2).size ≤ 4 := by rw [sz_append]; have : (⟨#[45]⟩ : ByteArray).size = 1 := rfl; omega
        have hls : (l ++ bl s).length ≤ 7 * j + 3 := by rw [List.length_append, ← bl_size]; omega
        have HCW2 := Lib.hid (BU.write (w.heap.size + 1) (w.heap.size + 1) (l ++ bl s) ((⟨#[45]⟩ : ByteArray) ++ s2) w4 (HBU3.out.keep hb5) (by omega) (by have := hb5.size; omega))
        clear hs2 hb4 hb5 k1 hbo
        go_wp2_with fail
        refine HCW2.out.mono ?_
        rintro e w5 ⟨rfl, hbu5, hb7⟩
        have hb8 : Below (w.heap.size + 1) W0 w5 := hb6.trans hb7
        have HBU5 := Lib.hid hbu5
        clear hb6 hb7 hbu5 HCW2
        go_wp2
        go_roundw
        case rel =>
          refine ⟨j + 1, l ++ bl s ++ bl ((⟨#[45]⟩ : ByteArray) ++ s2), by omega, by go_num, ?_, HBU5, ?_, hb8⟩
          · show _ = _
            rw [bl_append, HLS.out, HS.out, HS2.out, HNX2.out]; simp [bl]
          · rw [List.length_append, ← bl_size]; omega
        case measure => simp [intOf]; omega
      · have hg' : (z != y) = false := by rw [bne_eq_false_iff_eq]; omega
        have HNX2 : Hid (rangesT lo hi (j + 1) = rangesT lo hi j ++ (escB cO (u8 y) ++ [])) := by show _ = _; rw [HNX.out, HRT.out, if_neg hg]
        clear HNX HRT
        go_wp2
        go_roundw
        case rel =>
          refine ⟨j + 1, l ++ bl s, by omega, by go_num, ?_, HBU3, ?_, hb4⟩
          · show _ = _
            rw [HLS.out, HS.out, HNX2.out]; simp
          · rw [List.length_append, ← bl_size]; omega
        case measure => simp [intOf]; omega
    · have hlt' : ¬ (j : Int) < (lo.length : Int) := by omega
      obtain rfl : j = lo.length := by omega
      have hwl : w.heap.size + 1 < wr.heap.size := HBU.out.lt
      have HCS := Lib.hid (BU.string (w.heap.size + 1) (w.heap.size + 1) l wr HBU.out (by omega))
      go_wp2_with fail
      refine HCS.out.mono ?_
      rintro e w3 ⟨rfl, hb3⟩
      have hb4 := Lib.hid (HBW.out.trans (hb3.mono (by omega)))
      clear hb hb3 HCS
      go_wp2
      go_ret
      exact ⟨_, rfl, by rw [bl_mk, HLS.out], hb4.out⟩

end Go.Proofs.YtadfjdgjlgpncaaGreatDoor
